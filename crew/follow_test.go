package crew_test

import (
	"math/rand"
	"slices"
	"testing"

	"fugue/api"
	"fugue/crew"
)

// order: in a worker's task the kinds come so, and none comes back.
var order = []int{api.Pop: 1, api.Steal: 1, api.Look: 2, api.Pass: 3, api.Publish: 4, api.Lower: 5, api.Finish: 6, api.Exit: 0, api.Idle: 0}

// tasksOf: a worker's events fall into whole tasks, one behind the other, and an Exit at the end.
func tasksOf(t *testing.T, events []api.Event) {
	t.Helper()
	task, at := -1, 0
	for i, e := range events {
		if (e.Kind == api.Exit) != (i == len(events)-1) {
			t.Fatalf("P14.1: a worker's Exit is not its end: %s", tell(events))
		}
		now := order[e.Kind]
		switch {
		case task < 0 && e.Task < 0:
			continue
		case task < 0 && now == 1:
			task = e.Task
		case e.Task != task || now < at || now == 1 || now == 0 || now == 4 && at == 4 || now > 4 && at < 4 || now == 4 && at < 3:
			t.Fatalf("P14.1: %s does not belong here: %s", tell(events[i:i+1]), tell(events))
		}
		if at = now; now == 6 {
			task, at = -1, 0
		}
	}
}

// places: where an event of that kind and task stands; Task -1: any.
func places(events []api.Event, kind, task int) []int {
	var l []int
	for i, e := range events {
		if e.Kind == kind && (task < 0 || e.Task == task) {
			l = append(l, i)
		}
	}
	return l
}

func follows(t *testing.T, g plainGraph, workers int, h []api.Event) {
	t.Helper()
	for w := range workers {
		tasksOf(t, slices.DeleteFunc(slices.Clone(h), func(e api.Event) bool { return e.Worker != w }))
	}
	for c := range g.members {
		got := append(places(h, api.Pop, c), places(h, api.Steal, c)...)
		published, finished := places(h, api.Publish, c), places(h, api.Finish, c)
		if len(got) != 1 || len(published) != 1 || len(finished) != 1 || !h[published[0]].Changed || len(places(h, api.Pass, c)) == 0 {
			t.Fatalf("W4: the component %d: got at %v, published at %v, finished at %v: %s", c, got, published, finished, tell(h))
		}
		looks := places(h, api.Look, c)
		if len(looks) != len(g.callees[c]) {
			t.Fatalf("P14.1: the component %d: %d Looks, want %d", c, len(looks), len(g.callees[c]))
		}
		for i, at := range looks {
			if d := g.callees[c][i]; h[at].Other != d || !h[at].Changed || places(h, api.Publish, d)[0] > at {
				t.Fatalf("W4: the component %d: %s, want a Look of %d that finds it", c, tell(h[at:at+1]), d)
			}
		}
		pushed := 0
		for _, at := range places(h, api.Lower, -1) {
			e := h[at]
			if e.Other != c {
				continue
			}
			if e.N < 0 || e.Changed != (e.N == 0) || !slices.Contains(g.callees[c], e.Task) {
				t.Fatalf("P14.1: %s", tell(h[at:at+1]))
			}
			if e.Changed {
				pushed++
				for _, d := range g.callees[c] {
					if places(h, api.Publish, d)[0] > at {
						t.Fatalf("P14.1: the component %d is pushed ahead of the Publish of %d", c, d)
					}
				}
				if at > got[0] {
					t.Fatalf("P14.1: the component %d is got ahead of its push", c)
				}
			}
		}
		if pushed != min(len(g.callees[c]), 1) {
			t.Fatalf("P14.1: the component %d is pushed by %d Lowers", c, pushed)
		}
	}
	exits := places(h, api.Exit, -1)
	if len(exits) != workers || exits[0] < places(h, api.Finish, -1)[len(g.members)-1] {
		t.Fatalf("W5: exits at %v: %s", exits, tell(h))
	}
}

func TestWhatFollows(t *testing.T) {
	for seed := range 600 {
		r := rand.New(rand.NewSource(int64(seed)))
		p := anyProgram(r, 12, 9)
		workers := crews[r.Intn(len(crews))]
		_, h, _ := crew.Scripted(p, workers, anyScript(r, 200)...)
		follows(t, plainOf(p), workers, h)
	}
}

// With one worker, whatever the script, the events are the same.
func TestOneWorker(t *testing.T) {
	for seed := range 200 {
		r := rand.New(rand.NewSource(int64(seed)))
		p := anyProgram(r, 12, 9)
		_, want, _ := crew.Scripted(p, 1)
		if _, h, _ := crew.Scripted(p, 1, anyScript(r, 200)...); !slices.Equal(h, want) {
			t.Fatalf("P14.1: seed %d: %s\nwant %s", seed, tell(h), tell(want))
		}
		for _, e := range want {
			if e.Worker != 0 || e.Kind == api.Idle || e.Kind == api.Steal {
				t.Fatalf("P14.1: seed %d: one worker: %s", seed, tell(want))
			}
		}
	}
}

// W12: functions numbered otherwise have the same summaries, numbered so; one that nobody calls changes nothing for others.
func TestOtherNumbers(t *testing.T) {
	for seed := range 200 {
		r := rand.New(rand.NewSource(int64(seed)))
		p := anyProgram(r, 9, 9)
		as := r.Perm(len(p.Funcs))
		q := api.Program{Globals: p.Globals, Funcs: make([]api.Func, len(p.Funcs), len(p.Funcs)+1)}
		for f, x := range p.Funcs {
			x.Code = slices.Clone(x.Code)
			for at := range x.Code {
				if x.Code[at].Op == api.Call {
					x.Code[at].N = as[x.Code[at].N]
				}
			}
			q.Funcs[as[f]] = x
		}
		q.Funcs = append(q.Funcs, q.Funcs[r.Intn(len(as))])
		workers := 1 + r.Intn(9)
		a, _ := crew.Free(p, workers)
		b, _, _ := crew.Scripted(q, workers, anyScript(r, 60)...)
		for f := range a {
			if !alikeSum(a[f], b[as[f]]) {
				t.Fatalf("W12: seed %d: the function %d: %v, and %v by another number", seed, f, a[f], b[as[f]])
			}
		}
	}
}
