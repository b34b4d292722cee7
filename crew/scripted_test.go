package crew_test

import (
	"math"
	"slices"
	"strings"
	"testing"

	"fugue/api"
	"fugue/code"
	"fugue/crew"
)

// plays: these are the first events, if the workers go on in the order that they tell; none of them can't go on where it does.
func plays(t *testing.T, what string, p api.Program, workers int, told string) []api.Event {
	t.Helper()
	want := read(t, told)
	s := newPlay(p, workers)
	s.run(len(want), func(step int, able []int) int {
		if w := want[step].Worker; slices.Contains(able, w) {
			return w
		}
		t.Fatalf("%s: worker %d can't go on at step %d of\n%s", what, want[step].Worker, step, told)
		return 0
	})
	_, h, e := crew.Scripted(p, workers, s.script...)
	if e != api.OK || len(h) < len(want) || !slices.Equal(h[:len(want)], want) {
		t.Fatalf("P14.1: %s, %d workers, script %v: error %d, events\n%s\nwant\n%s", what, workers, s.script, e, tell(h), told)
	}
	return h
}

func TestExamples(t *testing.T) {
	for _, script := range [][]int{nil, {0}, {5, 5}, edges} {
		does(t, "example 1", leaves(1), 1, script, "0 Pop 0; 0 Pass 0 Other 0; 0 Publish 0 Changed; 0 Finish 0; 0 Exit -1")
	}
	two := "1 Idle -1; 1 Steal 0 Other 0; 1 Pass 0 Other 1; 1 Publish 0 Changed; 1 Lower 0 Other 1 N 0 Changed; 0 Idle -1; 1 Finish 0; 0 Steal 1 Other 1; 0 Look 1 Other 0 Changed; 0 Pass 1 Other 0; 0 Publish 1 Changed; 0 Finish 1; 1 Exit -1; 0 Exit -1"
	does(t, "example 2", calling([]int{1}, nil), 2, times(3, 1), two)
	does(t, "example 2, picks of the one who can go on", calling([]int{1}, nil), 2, times(3, 1, -9, 7), two)
	_, h, _ := crew.Scripted(leaves(2), 2, 0, 1)
	if !slices.Equal(h[:2], read(t, "0 Pop 0; 1 Pop 1")) {
		t.Errorf("P14.1: example 8 of the whole: %s", tell(h))
	}
	for _, workers := range []int{0, 65} {
		refused(t, "example 3", api.Program{}, workers, api.ErrWorkers)
		refused(t, "example 3", leaves(1), workers, api.ErrWorkers)
	}
}

// refused: with that error alone; the bound is 0.
func refused(t *testing.T, what string, p api.Program, workers int, want api.Errno) {
	t.Helper()
	for _, script := range [][]int{nil, {1, 2}} {
		if l, h, e := crew.Scripted(p, workers, script...); e != want || len(l)+len(h) > 0 {
			t.Errorf("P14.1: %s, %d workers: %v, %s, error %d, want %d alone", what, workers, l, tell(h), e, want)
		}
	}
	if l, e := crew.Free(p, workers); e != want || len(l) > 0 {
		t.Errorf("P14.2: %s, %d workers: %v, error %d, want %d alone", what, workers, l, e, want)
	}
	if n := crew.Bound(p, workers); n != 0 {
		t.Errorf("P14.3: %s, %d workers: %d, want 0", what, workers, n)
	}
}

// wrong: programs that are not right, each with its own error.
func wrong() []api.Program {
	f := func(x api.Func) api.Program { return api.Program{Funcs: []api.Func{x}} }
	last := ret()
	return []api.Program{
		{},
		{Globals: 99, Funcs: leaves(1).Funcs},
		{Globals: -1, Funcs: leaves(1).Funcs},
		leaves(api.MaxFuncs + 1),
		f(api.Func{}),
		f(api.Func{Params: 9, Vars: 9, Code: []api.Instr{last}}),
		f(api.Func{Params: -1, Code: []api.Instr{last}}),
		f(api.Func{Code: []api.Instr{{Op: 99}, last}}),
		f(api.Func{Code: []api.Instr{{Op: api.Call, N: 1}, last}}),
		f(api.Func{Code: []api.Instr{{Op: api.Call, N: -1}, last}}),
		f(api.Func{Code: []api.Instr{{Op: api.Call, Args: []int{0}}, last}}),
		f(api.Func{Code: []api.Instr{{Op: api.Null}, last}}),
		f(api.Func{Code: []api.Instr{{Op: api.Jump, N: 2}, last}}),
		f(api.Func{Code: []api.Instr{{Op: api.Call}}}),
		f(api.Func{Vars: 1, Code: []api.Instr{{Op: api.New, N: 9}, last}}),
		f(api.Func{Code: []api.Instr{{Op: api.Call, R: 3}, last}}),
	}
}

func TestNumbersOfWorkersThatMayNotBe(t *testing.T) {
	for _, workers := range []int{math.MinInt, math.MinInt + 1, -1 << 32, -65, -64, -2, -1, 0, 65, 66, 128, 1 << 32, 1<<32 + 1, math.MaxInt} {
		refused(t, "a right program", calling([]int{1}, nil), workers, api.ErrWorkers)
		for _, p := range wrong() {
			refused(t, "a program that is not right", p, workers, api.ErrWorkers)
		}
	}
}

func TestProgramsThatAreNotRight(t *testing.T) {
	met := map[api.Errno]int{}
	for _, p := range wrong() {
		want := code.Check(p)
		met[want]++
		for _, workers := range []int{1, 2, 64} {
			refused(t, "a program that is not right", p, workers, want)
		}
	}
	if met[api.OK] > 0 || len(met) < 9 {
		t.Errorf("too few errors: %v", met)
	}
}

// task: the events of a leaf that was got.
func task(w, c, f string) string {
	return strings.NewReplacer("w", w, "c", c, "f", f).Replace("; w Pass c Other f; w Publish c Changed; w Finish c")
}

// Component c stands at the beginning in the deque of worker c mod W, the lower ones farther off; the owner takes the near end, a thief the far one.
func TestTheTwoEnds(t *testing.T) {
	own := "0 Pop 4" + task("0", "4", "4") + "; 0 Pop 2" + task("0", "2", "2") + "; 0 Pop 0" + task("0", "0", "0")
	stolen := "; 0 Idle -1; 0 Steal 1 Other 1" + task("0", "1", "1") + "; 0 Idle -1; 0 Steal 3 Other 1" + task("0", "3", "3") + "; 0 Idle -1; 0 Steal 5 Other 1" + task("0", "5", "5")
	does(t, "one does all", leaves(6), 2, times(100, 0), own+stolen+"; 0 Exit -1; 1 Exit -1")
	does(t, "the upper one does all", leaves(3), 2, times(13, -1), "1 Pop 1"+task("1", "1", "1")+"; 1 Idle -1; 1 Steal 0 Other 0"+task("1", "0", "0")+"; 1 Idle -1; 1 Steal 2 Other 0"+task("1", "2", "2")+"; 0 Exit -1; 1 Exit -1")
	plays(t, "both ends at one time", leaves(9), 3, "0 Pop 6; 1 Pop 7; 2 Pop 8; 1 Pass 7 Other 7; 1 Publish 7 Changed; 1 Finish 7; 1 Pop 4; 1 Pass 4 Other 4; 1 Publish 4 Changed; 1 Finish 4; 1 Pop 1; 1 Pass 1 Other 1; 1 Publish 1 Changed; 1 Finish 1; 1 Idle -1; 1 Steal 2 Other 2; 0 Pass 6 Other 6; 2 Pass 8 Other 8; 2 Publish 8 Changed; 2 Finish 8; 2 Pop 5")
	does(t, "one worker", leaves(3), 1, nil, "0 Pop 2"+task("0", "2", "2")+"; 0 Pop 1"+task("0", "1", "1")+"; 0 Pop 0"+task("0", "0", "0")+"; 0 Exit -1")
	plays(t, "more workers than components", leaves(2), 5, "4 Idle -1; 3 Idle -1; 4 Steal 0 Other 0; 3 Steal -1 Other 4; 3 Steal -1 Other 0; 2 Idle -1; 2 Steal -1 Other 3; 3 Steal 1 Other 1; 4 Pass 0 Other 0; 3 Pass 1 Other 1; 4 Publish 0 Changed; 4 Finish 0; 3 Publish 1 Changed; 3 Finish 1; 0 Exit -1; 2 Exit -1; 1 Exit -1; 4 Exit -1; 3 Exit -1")
}

// What is pushed by a Lower stands at the near end of the worker's own deque, ahead of what stood there.
func TestPushedByLower(t *testing.T) {
	p := calling(nil, nil, []int{1}, []int{1}, nil) // components 0 1 2 3 4 are the functions; 2 and 3 call 1
	plays(t, "pushes", p, 1, "0 Pop 4; 0 Pass 4 Other 4; 0 Publish 4 Changed; 0 Finish 4; 0 Pop 1; 0 Pass 1 Other 1; 0 Publish 1 Changed; 0 Lower 1 Other 2 N 0 Changed; 0 Lower 1 Other 3 N 0 Changed; 0 Finish 1; 0 Pop 3; 0 Look 3 Other 1 Changed; 0 Pass 3 Other 3; 0 Publish 3 Changed; 0 Finish 3; 0 Pop 2; 0 Look 2 Other 1 Changed; 0 Pass 2 Other 2; 0 Publish 2 Changed; 0 Finish 2; 0 Pop 0; 0 Pass 0 Other 0; 0 Publish 0 Changed; 0 Finish 0; 0 Exit -1")
	plays(t, "pushes of a thief", p, 2, "0 Pop 4; 0 Pass 4 Other 4; 0 Publish 4 Changed; 0 Finish 4; 0 Pop 0; 0 Pass 0 Other 0; 0 Publish 0 Changed; 0 Finish 0; 0 Idle -1; 0 Steal 1 Other 1; 0 Pass 1 Other 1; 0 Publish 1 Changed; 0 Lower 1 Other 2 N 0 Changed; 0 Lower 1 Other 3 N 0 Changed; 1 Idle -1; 1 Steal 2 Other 0; 0 Finish 1; 0 Pop 3; 1 Look 2 Other 1 Changed; 0 Look 3 Other 1 Changed")
}

// A worker without a task comes round to its own deque again behind as many steals that find nothing as there are others, and behind a task.
func TestRoundOfSteals(t *testing.T) {
	p := calling(nil, nil, []int{0})
	h := plays(t, "round", p, 3, "0 Pop 0; 2 Idle -1; 2 Steal -1 Other 0; 0 Pass 0 Other 0; 0 Publish 0 Changed; 1 Pop 1; 0 Lower 0 Other 2 N 0 Changed; 2 Steal -1 Other 1; 2 Idle -1; 2 Steal 2 Other 0; 2 Look 2 Other 0 Changed; 2 Pass 2 Other 2; 2 Publish 2 Changed; 2 Finish 2; 0 Finish 0; 1 Pass 1 Other 1; 1 Publish 1 Changed; 1 Finish 1; 0 Exit -1; 2 Exit -1; 1 Exit -1")
	if len(h) != 21 {
		t.Errorf("P14.1: round: %d events: %s", len(h), tell(h))
	}
	plays(t, "behind a stolen task", leaves(9), 4, "3 Pop 7; 3 Pass 7 Other 7; 3 Publish 7 Changed; 3 Finish 7; 3 Pop 3; 3 Pass 3 Other 3; 3 Publish 3 Changed; 3 Finish 3; 0 Pop 8; 0 Pass 8 Other 8; 0 Publish 8 Changed; 0 Finish 8; 0 Pop 4; 0 Pass 4 Other 4; 0 Publish 4 Changed; 0 Finish 4; 0 Pop 0; 3 Idle -1; 3 Steal -1 Other 0; 3 Steal 1 Other 1; 3 Pass 1 Other 1; 3 Publish 1 Changed; 3 Finish 1; 3 Idle -1; 3 Steal -1 Other 0; 3 Steal 5 Other 1; 3 Pass 5 Other 5; 3 Publish 5 Changed; 3 Finish 5; 3 Idle -1; 3 Steal -1 Other 0; 3 Steal -1 Other 1; 3 Steal 2 Other 2")
	plays(t, "a place in the round is kept while it waits", calling([]int{2, 3}, nil, nil, nil), 3, "2 Pop 2; 0 Pop 0; 0 Pass 0 Other 1; 0 Publish 0 Changed; 0 Finish 0; 0 Idle -1; 1 Pop 1; 1 Pass 1 Other 2; 1 Publish 1 Changed; 2 Pass 2 Other 3; 2 Publish 2 Changed; 1 Lower 1 Other 3 N 1; 1 Finish 1; 2 Lower 2 Other 3 N 0 Changed; 0 Steal -1 Other 1; 0 Steal 3 Other 2; 0 Look 3 Other 1 Changed; 0 Look 3 Other 2 Changed; 0 Pass 3 Other 0")
}

// Looks and Lowers come in rising order, one for each component, however often and from wherever it is called, the own one aside.
func TestLooksAndLowers(t *testing.T) {
	p := calling([]int{3, 1, 3, 2, 1, 0}, nil, []int{2, 2}, nil) // {1} 0, {2} 1, {3} 2, {0} 3
	does(t, "called twice", p, 1, nil, "0 Pop 2; 0 Pass 2 Other 3; 0 Publish 2 Changed; 0 Lower 2 Other 3 N 2; 0 Finish 2; 0 Pop 1; 0 Pass 1 Other 2; 0 Publish 1 Changed; 0 Lower 1 Other 3 N 1; 0 Finish 1; 0 Pop 0; 0 Pass 0 Other 1; 0 Publish 0 Changed; 0 Lower 0 Other 3 N 0 Changed; 0 Finish 0; 0 Pop 3; 0 Look 3 Other 0 Changed; 0 Look 3 Other 1 Changed; 0 Look 3 Other 2 Changed; 0 Pass 3 Other 0; 0 Publish 3 Changed; 0 Finish 3; 0 Exit -1")
	p = calling([]int{5, 1}, []int{5, 2}, []int{5, 0, 4}, []int{5}, []int{5, 5}, nil) // {5} 0, {3} 1, {4} 2, {0 1 2} 3
	does(t, "a ring", p, 1, nil, "0 Pop 0; 0 Pass 0 Other 5; 0 Publish 0 Changed; 0 Lower 0 Other 1 N 0 Changed; 0 Lower 0 Other 2 N 0 Changed; 0 Lower 0 Other 3 N 1; 0 Finish 0; 0 Pop 2; 0 Look 2 Other 0 Changed; 0 Pass 2 Other 4; 0 Publish 2 Changed; 0 Lower 2 Other 3 N 0 Changed; 0 Finish 2; 0 Pop 3; 0 Look 3 Other 0 Changed; 0 Look 3 Other 2 Changed; 0 Pass 3 Other 0; 0 Pass 3 Other 1; 0 Pass 3 Other 2; 0 Publish 3 Changed; 0 Finish 3; 0 Pop 1; 0 Look 1 Other 0 Changed; 0 Pass 1 Other 3; 0 Publish 1 Changed; 0 Finish 1; 0 Exit -1")
}

// Rounds of Passes: each function of a ring, rising; one quiet round comes last.
func TestRoundsOfPasses(t *testing.T) {
	back, on := fn(1, 1, 1, "return v0"), fn(1, 1, 2, "v1 = f0(v0);return v1")
	does(t, "one that changes", of(t, back), 1, nil, "0 Pop 0; 0 Pass 0 Changed; 0 Pass 0; 0 Publish 0 Changed; 0 Finish 0; 0 Exit -1")
	does(t, "one that hangs on another", of(t, back, on), 1, nil, "0 Pop 0; 0 Pass 0 Changed; 0 Pass 0; 0 Publish 0 Changed; 0 Lower 0 Other 1 N 0 Changed; 0 Finish 0; 0 Pop 1; 0 Look 1 Other 0 Changed; 0 Pass 1 Other 1 Changed; 0 Pass 1 Other 1; 0 Publish 1 Changed; 0 Finish 1; 0 Exit -1")
	does(t, "example 6 of chapter 8", of(t, fn(1, 1, 2, "v1 = f0(v0);return v1")), 1, nil, "0 Pop 0; 0 Pass 0; 0 Publish 0 Changed; 0 Finish 0; 0 Exit -1")
	next := func(n string) string { return fn(1, 1, 2, "v1 = f"+n+"(v0);return v1") }
	end := fn(1, 1, 2, "v1 = f0(v0);g0 = v0;return v1")
	does(t, "a ring against the order", of(t, next("1"), next("2"), end), 1, nil, "0 Pop 0; 0 Pass 0; 0 Pass 0 Other 1; 0 Pass 0 Other 2 Changed; 0 Pass 0; 0 Pass 0 Other 1 Changed; 0 Pass 0 Other 2; 0 Pass 0 Changed; 0 Pass 0 Other 1; 0 Pass 0 Other 2; 0 Pass 0; 0 Pass 0 Other 1; 0 Pass 0 Other 2; 0 Publish 0 Changed; 0 Finish 0; 0 Exit -1")
	does(t, "a ring in the order", of(t, fn(1, 1, 2, "v1 = f2(v0);g0 = v0;return v1"), next("0"), next("1")), 1, nil, "0 Pop 0; 0 Pass 0 Changed; 0 Pass 0 Other 1 Changed; 0 Pass 0 Other 2 Changed; 0 Pass 0; 0 Pass 0 Other 1; 0 Pass 0 Other 2; 0 Publish 0 Changed; 0 Finish 0; 0 Exit -1")
	plays(t, "Passes of two at one time", of(t, back, fn(1, 1, 1, "g0 = v0;return v0")), 2, "0 Pop 0; 1 Pop 1; 1 Pass 1 Other 1 Changed; 0 Pass 0 Changed; 1 Pass 1 Other 1; 1 Publish 1 Changed; 0 Pass 0; 1 Finish 1; 0 Publish 0 Changed; 0 Finish 0; 0 Exit -1; 1 Exit -1")
}

// While others have all the tasks a worker waits; it can go on when a task comes to stand in a deque, whosever it is, and when nothing is left.
func TestWhoCanGoOn(t *testing.T) {
	does(t, "all wait for the last", leaves(1), 4, times(9, -1), "3 Idle -1; 3 Steal 0 Other 0; 3 Pass 0 Other 0; 3 Publish 0 Changed; 3 Finish 0; 3 Exit -1; 2 Exit -1; 1 Exit -1; 0 Exit -1")
	does(t, "going round", leaves(1), 4, nil, "0 Pop 0; 0 Pass 0; 0 Publish 0 Changed; 0 Finish 0; 1 Exit -1; 2 Exit -1; 3 Exit -1; 0 Exit -1")
	does(t, "one in a step of a round as nothing is left", leaves(1), 3, []int{2, 1, 0}, "2 Idle -1; 1 Idle -1; 0 Pop 0; 0 Pass 0; 0 Publish 0 Changed; 0 Finish 0; 1 Exit -1; 2 Exit -1; 0 Exit -1")
	p := calling(nil, []int{0}, []int{1})
	does(t, "a chain, going round", p, 2, nil, "0 Pop 0; 0 Pass 0; 0 Publish 0 Changed; 0 Lower 0 Other 1 N 0 Changed; 1 Idle -1; 0 Finish 0; 1 Steal 1 Other 0; 1 Look 1 Other 0 Changed; 1 Pass 1 Other 1; 1 Publish 1 Changed; 1 Lower 1 Other 2 N 0 Changed; 0 Idle -1; 1 Finish 1; 0 Steal 2 Other 1; 0 Look 2 Other 1 Changed; 0 Pass 2 Other 2; 0 Publish 2 Changed; 0 Finish 2; 1 Exit -1; 0 Exit -1")
}

// Picks: the place counts from 0 to c - 1 among those that can go on, whatever the number.
func TestPicks(t *testing.T) {
	first := func(k int) int {
		_, h, _ := crew.Scripted(leaves(3), 3, k)
		return h[0].Worker
	}
	for _, k := range edges {
		if got, want := first(k), plainMod(k, 3); got != want {
			t.Errorf("P14.1: the script %d picks %d of 3, want %d", k, got, want)
		}
	}
	does(t, "behind the script's end", leaves(3), 3, []int{1}, "1 Pop 1; 2 Pop 2; 0 Pop 0; 1 Pass 1 Other 1; 2 Pass 2 Other 2; 0 Pass 0; 1 Publish 1 Changed; 2 Publish 2 Changed; 0 Publish 0 Changed; 1 Finish 1; 2 Finish 2; 0 Finish 0; 1 Exit -1; 2 Exit -1; 0 Exit -1")
	does(t, "places among those who can go on", calling([]int{1}, nil), 3, []int{2, 2, 2, 1, 1, 1, 1}, "2 Idle -1; 2 Steal 0 Other 0; 2 Pass 0 Other 1; 2 Publish 0 Changed; 2 Lower 0 Other 1 N 0 Changed; 1 Idle -1; 1 Steal 1 Other 2; 2 Finish 0; 1 Look 1 Other 0 Changed; 1 Pass 1 Other 0; 1 Publish 1 Changed; 1 Finish 1; 2 Exit -1; 0 Exit -1; 1 Exit -1")
}
