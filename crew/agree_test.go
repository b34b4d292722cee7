package crew_test

import (
	"math/rand"
	"slices"
	"testing"

	"fugue/api"
	"fugue/crew"
)

// agrees: Scripted and the plain play: the same events and summaries, which are the least solution's.
func agrees(t *testing.T, p api.Program, workers int, script []int) *plainPlay {
	t.Helper()
	s := plain(p, workers, script)
	l, h, e := crew.Scripted(p, workers, script...)
	if e != api.OK || !slices.Equal(h, s.events) {
		t.Fatalf("P14.1: %v, %d workers, script %v: error %d, events\n%s\nwant\n%s", callsOf(p), workers, script, e, tell(h), tell(s.events))
	}
	if !alikeSums(l, s.summaries()) {
		t.Fatalf("P14.1: %v, %d workers, script %v: %v, want %v", p, workers, script, l, s.summaries())
	}
	return s
}

// solves: the summaries are whole.Solve's, under the script and free.
func solves(t *testing.T, p api.Program, workers int, script []int) {
	t.Helper()
	want := least(t, p)
	if l, _, e := crew.Scripted(p, workers, script...); e != api.OK || !alikeSums(l, want) {
		t.Fatalf("W1: %v, %d workers, script %v: %v, error %d, want %v", p, workers, script, l, e, want)
	}
	if l, e := crew.Free(p, workers); e != api.OK || !alikeSums(l, want) {
		t.Fatalf("W1: %v, %d workers, free: %v, error %d, want %v", p, workers, l, e, want)
	}
}

// allScripts: of so many numbers below a bound; do is given each.
func allScripts(length, below int, do func(script []int)) {
	script := make([]int, length)
	for {
		do(script)
		i := 0
		for ; i < length && script[i] == below-1; i++ {
			script[i] = 0
		}
		if i == length {
			return
		}
		script[i]++
	}
}

// graphs: of so many functions, all ways of who calls whom.
func graphs(n int, do func(p api.Program)) {
	for bits := range 1 << (n * n) {
		lists := make([][]int, n)
		for k := range n * n {
			if bits>>k&1 == 1 {
				lists[k/n] = append(lists[k/n], k%n)
			}
		}
		do(calling(lists...))
	}
}

func TestAllOfFewFunctions(t *testing.T) {
	for n := 1; n <= 2; n++ {
		graphs(n, func(p api.Program) {
			allScripts(9, 2, func(script []int) { agrees(t, p, 2, script) })
			allScripts(6, 3, func(script []int) { agrees(t, p, 3, script) })
			for _, workers := range crews {
				agrees(t, p, workers, nil)
				agrees(t, p, workers, edges)
			}
		})
	}
	r := rand.New(rand.NewSource(3))
	graphs(3, func(p api.Program) {
		for workers := 1; workers <= 4; workers++ {
			for _, script := range [][]int{nil, times(40, 0), times(40, -1), anyScript(r, 40), anyScript(r, 40)} {
				agrees(t, p, workers, script)
			}
		}
	})
}

// All ways for two workers of a program in which each can get in the other's way: 0 and 1 are leaves, 2 calls both, 3 and 4 are a ring that calls 0.
func TestAllScriptsOfTwoWorkers(t *testing.T) {
	p := calling(nil, nil, []int{0, 1}, []int{4}, []int{3, 0})
	allScripts(12, 2, func(script []int) { agrees(t, p, 2, script) })
	ring := of(t, fn(1, 1, 2, "v1 = f1(v0);return v1"), fn(1, 1, 2, "v1 = f0(v0);g0 = v0;return v1"), fn(1, 1, 1, "return v0"), fn(1, 1, 2, "v1 = f2(v0);return v1"))
	allScripts(11, 2, func(script []int) { agrees(t, ring, 2, script) })
}

func TestAnyPrograms(t *testing.T) {
	met := map[api.Event]int{}
	for seed := range 3000 {
		r := rand.New(rand.NewSource(int64(seed)))
		p := anyProgram(r, 9, 9)
		workers := crews[r.Intn(len(crews))]
		if r.Intn(3) > 0 {
			workers = 1 + r.Intn(4)
		}
		script := anyScript(r, 80)
		for _, e := range agrees(t, p, workers, script).events {
			met[api.Event{Kind: e.Kind, Task: min(e.Task, 0), N: min(e.N, 1), Changed: e.Changed}]++
		}
		solves(t, p, workers, script)
	}
	for _, e := range []api.Event{
		{Kind: api.Pop}, {Kind: api.Idle, Task: -1}, {Kind: api.Steal}, {Kind: api.Steal, Task: -1}, {Kind: api.Look, Changed: true}, {Kind: api.Pass}, {Kind: api.Pass, Changed: true},
		{Kind: api.Publish, Changed: true}, {Kind: api.Lower, N: 1}, {Kind: api.Lower, Changed: true}, {Kind: api.Finish}, {Kind: api.Exit, Task: -1},
	} {
		if met[e] < 500 {
			t.Errorf("too few of a kind: %s: %d", tell([]api.Event{e}), met[e])
		}
		delete(met, e)
	}
	if len(met) > 0 {
		t.Errorf("P14.1: events that may not be: %v", met)
	}
}

func TestGreaterPrograms(t *testing.T) {
	for seed := range 60 {
		r := rand.New(rand.NewSource(int64(seed)))
		p := anyProgram(r, 60, 12)
		for _, workers := range []int{1, 2, 3 + r.Intn(10), 64} {
			script := anyScript(r, 1000)
			agrees(t, p, workers, script)
			solves(t, p, workers, script)
		}
	}
}

// One who is always picked, if it can go on: each of the workers once, the others only as it waits.
func TestOneAhead(t *testing.T) {
	for seed := range 150 {
		r := rand.New(rand.NewSource(int64(seed)))
		p := anyProgram(r, 10, 9)
		workers := 2 + r.Intn(5)
		for ahead := range workers {
			s := newPlay(p, workers)
			s.run(unbounded, func(_ int, able []int) int {
				if slices.Contains(able, ahead) {
					return ahead
				}
				return able[r.Intn(len(able))]
			})
			agrees(t, p, workers, s.script)
		}
	}
}

// The numbers count by their places alone: others of the same remainder by all numbers of workers pick the same.
func TestNumbersOfTheSamePlaces(t *testing.T) {
	for seed := range 200 {
		r := rand.New(rand.NewSource(int64(seed)))
		p, workers, script := anyProgram(r, 6, 8), 1+r.Intn(6), anyScript(r, 40)
		others := slices.Clone(script)
		for i, k := range script {
			if others[i] = k - 60; k < 0 { // 60: of all numbers up to 6
				others[i] = k + 120
			}
		}
		_, a, _ := crew.Scripted(p, workers, script...)
		if _, b, _ := crew.Scripted(p, workers, others...); !slices.Equal(a, b) {
			t.Fatalf("P14.1: seed %d: the scripts %v and %v: %s\nand %s", seed, script, others, tell(a), tell(b))
		}
	}
}

// The same program, the same script: the same events, again and again.
func TestAgainTheSame(t *testing.T) {
	for seed := range 60 {
		r := rand.New(rand.NewSource(int64(seed)))
		p, workers, script := anyProgram(r, 9, 9), 1+r.Intn(9), anyScript(r, 40)
		_, want, _ := crew.Scripted(p, workers, script...)
		for range 5 {
			if _, h, _ := crew.Scripted(p, workers, script...); !slices.Equal(h, want) {
				t.Fatalf("R6: seed %d: %s\nand %s", seed, tell(h), tell(want))
			}
		}
	}
}

// Numbers behind those that are needed say nothing.
func TestNumbersThatAreNotNeeded(t *testing.T) {
	for seed := range 100 {
		r := rand.New(rand.NewSource(int64(seed)))
		p, workers := anyProgram(r, 5, 6), 1+r.Intn(4)
		script := anyScript(r, 300)
		_, want, _ := crew.Scripted(p, workers, script...)
		if len(want) > len(script) {
			continue
		}
		if _, h, _ := crew.Scripted(p, workers, append(script[:len(want):len(want)], edges...)...); !slices.Equal(h, want) {
			t.Fatalf("P14.1: seed %d: %s\nwant %s", seed, tell(h), tell(want))
		}
	}
}

// The least solution is meant, not another one, and the summaries stand by function, not by component.
func TestSummaries(t *testing.T) {
	p := of(t,
		fn(1, 1, 2, "v1 = f3(v0);return v1"),
		fn(1, 0, 1, "f1(v0);return"),
		fn(2, 2, 4, "v2 = v0.0;g0 = v2;return v1, v0"),
		fn(1, 1, 3, "v1, v2 = f2(v0, v0);return v1"),
		fn(1, 1, 2, "v1 = &v0;return v1"),
		fn(0, 1, 1, "v0 = new 1;return v0"),
	)
	want := []api.Summary{one(1, 0), sum([]int{none}, nil), sum([]int{1, none}, []int{none, 0}, []int{0, none}), one(1, 0), one(0, 0), {}}
	for _, workers := range crews {
		for _, script := range [][]int{nil, edges, times(50, -1)} {
			if l, _, e := crew.Scripted(p, workers, script...); e != api.OK || !alikeSums(l, want) {
				t.Errorf("P14.1: %d workers, script %v: %v, error %d, want %v", workers, script, l, e, want)
			}
		}
		if l, e := crew.Free(p, workers); e != api.OK || !alikeSums(l, want) {
			t.Errorf("P14.2: %d workers: %v, error %d, want %v", workers, l, e, want)
		}
	}
}
