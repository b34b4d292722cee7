package gc_test

import (
	"math/rand"
	"reflect"
	"slices"
	"testing"

	"fugue/api"
	"fugue/gc"
)

const mark = -77 // stands in spare room

// roomy: the same list with spare room behind it, in which more stands.
func roomy[T any](l []T, more T) []T {
	return append(append(make([]T, 0, len(l)+2), l...), more, more)[:len(l)]
}

// full: a list with its spare room, in new memory.
func full[T any](l []T) []T { return slices.Clone(l[:cap(l)]) }

func fill[T any](l []T, x T) {
	l = l[:cap(l)]
	for i := range l {
		l[i] = x
	}
}

// given: what a run is made of.
type given struct {
	p    api.Program
	h    api.Result
	args []api.Value
}

// changed: each list of it handed through the functions that fit its elements.
func (g given) changed(ints func([]int) []int, truths func([]bool) []bool, code func([]api.Instr) []api.Instr, lists func([][]bool) [][]bool) given {
	g.p.Funcs = slices.Clone(g.p.Funcs)
	for i, f := range g.p.Funcs {
		c := code(f.Code)
		for at, x := range c {
			c[at].Args, c[at].Rets = ints(x.Args), ints(x.Rets)
		}
		g.p.Funcs[i].Code = c
	}
	g.h.Vars, g.h.Code = lists(g.h.Vars), lists(g.h.Code)
	for i := range g.h.Vars {
		g.h.Vars[i], g.h.Code[i] = truths(g.h.Vars[i]), truths(g.h.Code[i])
	}
	return g
}

// withRoom: the same, with spare room behind each list.
func (g given) withRoom() given {
	g = g.changed(
		func(l []int) []int { return roomy(l, mark) },
		func(l []bool) []bool { return roomy(l, true) },
		func(l []api.Instr) []api.Instr { return roomy(l, api.Instr{Op: mark}) },
		func(l [][]bool) [][]bool { return roomy(l, []bool{true}) },
	)
	g.p.Funcs = roomy(g.p.Funcs, api.Func{Vars: mark})
	g.h.Sums = roomy([]api.Summary{{Heap: roomy([]int{1}, mark)}}, api.Summary{})
	g.args = roomy(g.args, num(mark))
	return g
}

// inIt: all that stands in it, in spare room too, in new memory.
func (g given) inIt() given {
	g.p.Funcs = full(g.p.Funcs)
	g = g.changed(full[int], full[bool], full[api.Instr], full[[]bool])
	g.h.Sums, g.args = full(g.h.Sums), full(g.args)
	for i, s := range g.h.Sums {
		g.h.Sums[i].Heap = full(s.Heap)
	}
	return g
}

func anyGiven(seed int) given {
	r := rand.New(rand.NewSource(int64(seed)))
	p := anyProgram(r)
	return given{p, anywhere(r, p), anyArgs(r, p)}
}

func TestArgumentsStay(t *testing.T) {
	for seed := range 300 {
		g := anyGiven(seed).withRoom()
		was := g.inIt()
		if seed == 0 && reflect.DeepEqual(was, anyGiven(seed).inIt()) {
			t.Fatal("there is no spare room to look at")
		}
		for every := range 3 {
			tr, _, e := gc.Run(g.p, g.h, 60, every, g.args...)
			fill(tr.Prints, num(mark))
			fill(tr.Results, num(mark))
			if e != api.OK || !reflect.DeepEqual(g.inIt(), was) {
				t.Fatalf("R5: seed %d: Run changed what it was given, or has the error %d", seed, e)
			}
		}
		gc.Run(g.p, g.h, 60, 1, append(slices.Clip(g.args), ptr(1))...)
		gc.Run(g.p, api.Result{Vars: g.h.Vars, Code: g.h.Code[1:]}, 60, 1, g.args...)
		if !reflect.DeepEqual(g.inIt(), was) {
			t.Fatalf("R5: seed %d: Run changed what it refused", seed)
		}
	}
}

// What was answered is the caller's: whatever becomes of it, the run and later answers don't see it, nor does it see them.
func TestAnswersAreNew(t *testing.T) {
	p := of(t, fn(0, 0, 2, "v0 = new 2;v0.1 = v1;v1 = v0;v0 = new 1;v0 = null;jump 0"))
	m, other := begun(t, p, onHeap(p)), begun(t, p, onHeap(p))
	var told [][]int
	for n := range 60 {
		l := gc.Reach(m)
		if !slices.Equal(l, plainReach(other)) {
			t.Fatalf("R5: behind %d steps: %v, want %v", n, l, plainReach(other))
		}
		fill(l, mark)
		told = append(told, l)
		if n%7 == 0 {
			gc.Collect(m)
		}
		steps(t, m, 1)
		steps(t, other, 1)
	}
	for n, l := range told {
		if slices.ContainsFunc(l[:cap(l)], func(x int) bool { return x != mark }) {
			t.Errorf("R5: what Reach told behind %d steps has changed since", n)
		}
	}
}

func TestTracesAreNew(t *testing.T) {
	p := of(t, fn(1, 2, 2, "print v0;v1 = new 1;print v1;return v1, v0"))
	want := api.Trace{Prints: []api.Value{num(3), {Kind: api.Ptr}}, Results: []api.Value{{Kind: api.Ptr}, num(3)}, Steps: 4}
	var told []api.Trace
	for range 5 {
		tr, _, e := gc.Run(p, onHeap(p), 9, 1, num(3))
		if e != api.OK || !sameTrace(tr, want) {
			t.Fatalf("R5: %+v, error %d, want %+v", tr, e, want)
		}
		fill(tr.Prints, num(mark))
		fill(tr.Results, num(mark+1))
		told = append(told, tr)
	}
	for _, tr := range told {
		if slices.Contains(tr.Prints[:cap(tr.Prints)], num(mark+1)) || slices.Contains(tr.Results[:cap(tr.Results)], num(mark)) {
			t.Error("R5: a trace's lists share memory")
		}
	}
}

// A collection in one run is none in another, of the same program or not.
func TestRunsAreTheirOwn(t *testing.T) {
	for seed := range 200 {
		g := anyGiven(seed)
		one, two := begun(t, g.p, g.h, g.args...), begun(t, g.p, g.h, g.args...)
		for range 40 {
			two.Step()
		}
		was := look(two)
		for range 40 {
			one.Step()
			gc.Collect(one)
		}
		if !look(two).same(was) || !sameTrace(one.Trace(), two.Trace()) {
			t.Fatalf("P22.4: seed %d: a run changes with another one", seed)
		}
	}
}

// The same things handed in give the same answers, one behind the other and at one time.
func TestAtOneTime(t *testing.T) {
	for seed := range 10 {
		g := anyGiven(seed)
		want, dropped, _ := gc.Run(g.p, g.h, 200, 2, g.args...)
		good := make(chan bool)
		for range 8 {
			go func() {
				all := true
				for range 10 {
					tr, n, e := gc.Run(g.p, g.h, 200, 2, g.args...)
					all = all && e == api.OK && n == dropped && sameTrace(tr, want)
				}
				good <- all
			}()
		}
		for range 8 {
			if !<-good {
				t.Fatalf("R6: seed %d: runs at one time are others than one by one", seed)
			}
		}
	}
}
