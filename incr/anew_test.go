package incr_test

import (
	"testing"

	"fugue/api"
	"fugue/incr"
)

const (
	back  = "return v0"                // Heap None, Result 0
	again = "v1 = v0;return v1"        // the same summary
	store = "g0 = v0;return v0"        // Heap 0, Result 0
	load  = "v1 = v0.0;return v1"      // Heap None, Result 1
	never = "return v1"                // Heap None, Result None
	out   = "v1 = &v0;return v1"       // Heap 0, Result 0, and the parameter on the heap
	deep  = "v1 = v0.0;g0 = v1;jump 0" // Heap 1, Result None
)

// on: a function that hands on what it is given and what it gets back.
func on(callee string) string { return "v1 = " + callee + "(v0);return v1" }

// round: one of a ring that comes back, too.
func round(callee string) string {
	return "if v0 jump 3;v1 = " + callee + "(v0);return v1;return v0"
}

// Along a chain of callers: up to where no summary becomes another one.
func TestChain(t *testing.T) {
	s := begun(t, ones(t, on("f1"), on("f2"), on("f3"), back, on("f3")))
	becomes(t, "the same summary, at the end", s, 3, again, []int{3})
	becomes(t, "another one, at the end", s, 3, store, []int{3}, []int{2}, []int{1}, []int{0}, []int{4})
	becomes(t, "the same numbers, another placement", s, 3, out, []int{3})
	becomes(t, "one in the middle, as it was", s, 2, on("f3"), []int{2})
	becomes(t, "one in the middle that stores", s, 2, "g0 = v0;v1 = f3(v0);return v1", []int{2})
	becomes(t, "what it stores already", s, 3, back, []int{3}, []int{2}, []int{4})
	becomes(t, "what it hands on still", s, 3, load, []int{3}, []int{2}, []int{1}, []int{0}, []int{4})
	becomes(t, "one that calls nobody any more", s, 1, store, []int{1}, []int{0})
	becomes(t, "one that is not called from there any more", s, 3, never, []int{3}, []int{2}, []int{4})
	becomes(t, "only the heap's number", s, 3, deep, []int{3}, []int{2}, []int{4})
	becomes(t, "the beginning", s, 0, back, []int{0})
}

// Callers look at what they call, not at how it comes to that: two callees that change places.
func TestTwoWays(t *testing.T) {
	s := begun(t, ones(t, "v1 = f1(v0);v2 = f2(v0);return v1", store, back))
	solves(t, "changed about", s, []int{1, 2}, []api.Func{one(t, back), one(t, store)}, []int{1}, []int{2}, []int{0})
	becomes(t, "only one of them", s, 1, store, []int{1}, []int{0})
	becomes(t, "none of them", s, 1, out, []int{1})
	becomes(t, "a call that is not there any more", s, 0, on("f2"), []int{0})
	becomes(t, "one that is not called any more", s, 1, never, []int{1})
}

// A function that calls a component is solved anew by any function of this, called or not.
func TestAnyFunctionOfARing(t *testing.T) {
	// 0 calls 1; 1 and 2 are a ring; what 2 does with its parameter 1 does not tell, since it hands on nil.
	s := begun(t, ones(t, on("f1"), "v2 = f2(v1);return v0", round("f1")))
	becomes(t, "one that 0 does not call", s, 2, "g0 = v0;v1 = f1(v0);return v1", []int{1, 2}, []int{0})
	becomes(t, "neither of them", s, 2, "g0 = v0;v1 = f1(v0);return v1", []int{1, 2})
	becomes(t, "where it lies is no summary", s, 2, "v2 = &v0;g0 = v2;v1 = f1(v0);return v1", []int{1, 2})
}

// Round a ring: the whole of it is solved anew, and its callers only if a summary becomes another one.
func TestRing(t *testing.T) {
	s := begun(t, ones(t, on("f1"), round("f2"), round("f3"), round("f1"), on("f2")))
	for f := 1; f <= 3; f++ {
		solves(t, "the same function again", s, []int{f}, s.Program().Funcs[f:f+1], []int{1, 2, 3})
	}
	becomes(t, "another function of the same summary", s, 2, "if v0 jump 2;v0 = f3(v0);return v0", []int{1, 2, 3})
	becomes(t, "another summary", s, 2, "g0 = v0;v1 = f3(v0);return v1", []int{1, 2, 3}, []int{0}, []int{4})
	becomes(t, "the same one", s, 3, "g0 = v0;v1 = f1(v0);return v1", []int{1, 2, 3})
	solves(t, "all of the ring and one caller", s, []int{4, 3, 1, 2}, []api.Func{one(t, on("f2")), one(t, round("f1")), one(t, round("f2")), one(t, round("f3"))}, []int{1, 2, 3}, []int{0}, []int{4})
	becomes(t, "a caller", s, 4, on("f3"), []int{4})
}

// What was said of a ring's functions before makes no difference: from the lowest on, what only the ring itself gives is given no more.
func TestRingForgets(t *testing.T) {
	s := begun(t, ones(t, on("f1"), "g0 = v0;v1 = f2(v0);return v1", round("f1")))
	becomes(t, "less than before", s, 1, on("f2"), []int{1, 2}, []int{0})
	becomes(t, "nothing comes back", s, 2, on("f1"), []int{1, 2}, []int{0})
	alone := begun(t, ones(t, "g0 = v0;v1 = f0(v0);return v0"))
	becomes(t, "one that calls itself", alone, 0, on("f0"), []int{0})
	becomes(t, "one that calls itself, as before", alone, 0, "v0 = f0(v0);return v1", []int{0})
}

// A ring that is joined is no component before, even where no summary changes; so is what is left of one.
func TestRingsJoinAndFallApart(t *testing.T) {
	s := begun(t, ones(t, on("f1"), on("f2"), round("f3"), round("f2"), back, on("f4")))
	becomes(t, "a ring of one more", s, 3, "if v0 jump 4;v1 = f2(v0);v1 = f1(v1);return v1;return v0", []int{1, 2, 3})
	becomes(t, "all that call one another", s, 3, "if v0 jump 5;v1 = f2(v0);v1 = f1(v1);v1 = f0(v1);return v1;return v0", []int{0, 1, 2, 3})
	becomes(t, "one less", s, 3, "if v0 jump 4;v1 = f2(v0);v1 = f1(v1);return v1;return v0", []int{1, 2, 3}, []int{0})
	becomes(t, "apart, in two", s, 2, round("f1"), []int{1, 2}, []int{3})
	becomes(t, "apart, all of it", s, 1, back, []int{1}, []int{2})
	becomes(t, "two rings", s, 2, round("f3"), []int{2, 3})
	solves(t, "two rings", s, []int{4}, []api.Func{one(t, round("f5"))}, []int{4, 5})
	becomes(t, "two rings that become one", s, 5, "if v0 jump 3;v1 = f4(v0);v1 = f2(v1);return v0", []int{4, 5})
	becomes(t, "two rings that become one", s, 3, "if v0 jump 4;v1 = f2(v0);v1 = f5(v1);return v1;return v0", []int{2, 3, 4, 5})
	solves(t, "members that change about", s, []int{3, 5}, []api.Func{one(t, round("f4")), one(t, round("f2"))}, []int{2, 3, 4, 5})
	solves(t, "other pairs", s, []int{2, 3, 4, 5}, []api.Func{one(t, round("f4")), one(t, round("f5")), one(t, round("f2")), one(t, round("f3"))}, []int{2, 4}, []int{3, 5})
}

// A member that comes or goes: those whose code is as it was are no component before; callers look at summaries alone.
func TestMembersComeAndGo(t *testing.T) {
	s := begun(t, ones(t, on("f1"), round("f2"), "if v0 jump 3;v1 = f1(v0);v1 = f3(v0);return v0", back, on("f3")))
	becomes(t, "one comes", s, 3, round("f1"), []int{1, 2, 3})
	becomes(t, "it goes", s, 3, back, []int{3}, []int{1, 2})
	becomes(t, "it comes, and stores", s, 3, "g0 = v0;v1 = f2(v0);return v0", []int{1, 2, 3}, []int{0}, []int{4})
	becomes(t, "another one goes", s, 1, store, []int{1}, []int{2, 3})
	becomes(t, "all of them go", s, 2, "v1 = f1(v0);g0 = v1;return v0", []int{2}, []int{3})
}

// New functions: alone, calling old ones, called by those that change, in a ring with them; any summary of theirs is another one than before.
func TestNewFunctions(t *testing.T) {
	add := func(what string, s *incr.Session, at []int, lines []string, want ...[]int) {
		t.Helper()
		var fs []api.Func
		for _, l := range lines {
			fs = append(fs, one(t, l))
		}
		solves(t, what, s, at, fs, want...)
	}
	s := begun(t, ones(t, on("f1"), back))
	add("alone", s, []int{2}, []string{store}, []int{2})
	add("calling an old one", s, []int{3}, []string{on("f1")}, []int{3})
	add("called by one that changes", s, []int{1, 4}, []string{on("f4"), back}, []int{4}, []int{1})
	add("called by one that changes with it", s, []int{5, 1}, []string{store, on("f5")}, []int{5}, []int{1}, []int{0}, []int{3})
	add("two that call each other", s, []int{7, 6}, []string{round("f6"), round("f7")}, []int{6, 7})
	add("one that is called by another", s, []int{8, 9}, []string{on("f9"), never}, []int{9}, []int{8})
	add("calling itself", s, []int{10}, []string{round("f10")}, []int{10})
	// {1 11} was no component before, and has a new function; so 0 and 3, which call 1, are solved anew, though 1's summary is as it was.
	add("in a ring with an old one", s, []int{1, 11}, []string{"g0 = v0;v1 = f11(v0);return v0", "v1 = f1(v0);return v1"}, []int{1, 11}, []int{0}, []int{3})
	becomes(t, "no more new", s, 11, "v1 = f1(v0);return v1", []int{1, 11})
}

// Function 0 is like any other.
func TestFunctionZero(t *testing.T) {
	s := begun(t, ones(t, back, on("f0"), on("f1")))
	becomes(t, "the same summary", s, 0, again, []int{0})
	becomes(t, "another one", s, 0, store, []int{0}, []int{1}, []int{2})
	becomes(t, "a ring of all", s, 0, "g0 = v0;v1 = f2(v0);return v0", []int{0, 1, 2})
	becomes(t, "alone again", s, 0, never, []int{0}, []int{1}, []int{2})
	single := begun(t, ones(t, back))
	becomes(t, "the only one", single, 0, round("f0"), []int{0})
	solves(t, "the only one, with another head", single, []int{0}, []api.Func{{Results: 2, Vars: 1, Code: []api.Instr{ret(0, 0)}}}, []int{0})
	solves(t, "the only one, with nothing", single, []int{0}, []api.Func{{Code: []api.Instr{ret()}}}, []int{0})
}

// All at once: every component, in the order of the new numbers, whatever the order in which they are handed in.
func TestAllAtOnce(t *testing.T) {
	lines := []string{on("f1"), round("f2"), "if v0 jump 3;v1 = f1(v0);v1 = f3(v1);return v0", back, round("f4")}
	want := [][]int{{3}, {1, 2}, {0}, {4}} // the chapter on calls has these numbers
	s := begun(t, ones(t, lines...))
	for _, at := range [][]int{{0, 1, 2, 3, 4}, {4, 3, 2, 1, 0}, {2, 4, 0, 3, 1}} {
		var fs []api.Func
		for _, f := range at {
			fs = append(fs, one(t, lines[f]))
		}
		solves(t, "the same program again", s, at, fs, want...)
	}
	empty := api.Func{Code: []api.Instr{ret()}}
	solves(t, "functions of other heads", s, []int{1, 0, 3, 2, 4}, []api.Func{empty, empty, empty, empty, empty}, []int{0}, []int{1}, []int{2}, []int{3}, []int{4})
	solves(t, "all and some more", s, []int{0, 6, 1, 5, 2, 3, 4}, []api.Func{
		{Code: []api.Instr{call(5, nil, nil), ret()}}, {Code: []api.Instr{call(0, nil, nil), ret()}}, empty,
		{Code: []api.Instr{call(6, nil, nil), call(4, nil, nil), ret()}}, empty, empty, empty}, []int{1}, []int{2}, []int{3}, []int{4}, []int{0, 5, 6})
}

// The order is that of the new components' numbers, by the lowest function of those whose callees have one, not that of the functions nor that of the old numbers.
func TestOrder(t *testing.T) {
	s := begun(t, ones(t, on("f5"), on("f4"), back, round("f6"), back, back, round("f3")))
	solves(t, "two chains", s, []int{4, 5}, []api.Func{one(t, store), one(t, store)}, []int{4}, []int{1}, []int{5}, []int{0})
	solves(t, "turned round", s, []int{4, 1}, []api.Func{one(t, on("f1")), one(t, back)}, []int{1}, []int{4})
	solves(t, "a ring behind what it calls", s, []int{6, 2, 5}, []api.Func{one(t, "v1 = f3(v0);v1 = f5(v1);return v0"), one(t, back), one(t, back)}, []int{2}, []int{5}, []int{0}, []int{3, 6})
}

// A head that changes with all its callers; the summary has other numbers then, or none.
func TestHeads(t *testing.T) {
	p := of(t, fn(0, 0, 2, "v0 = f1(v1);return"), fn(1, 1, 1, "return v0"), fn(1, 0, 2, "v1 = f1(v0);return"))
	s := begun(t, p)
	q := of(t, fn(0, 0, 2, "v0,v1 = f1(v1,v0);return"), fn(2, 2, 2, "return v1,v0"), fn(1, 0, 2, "v1,v1 = f1(v0,v0);g0 = v1;return"))
	solves(t, "more of all", s, []int{0, 1, 2}, q.Funcs, []int{1}, []int{0}, []int{2})
	q = of(t, fn(0, 0, 2, "f1();return"), fn(0, 0, 0, "return"), fn(1, 0, 2, "return"))
	refuses(t, "less of all, but where it is called", s, []int{0, 1}, q.Funcs[:2], api.ErrArity)
	solves(t, "less of all, where it is called no more", s, []int{2}, q.Funcs[2:], []int{2})
	solves(t, "less of all", s, []int{0, 1}, q.Funcs[:2], []int{1}, []int{0})
	solves(t, "as it was", s, []int{0, 1, 2}, p.Funcs, []int{1}, []int{0}, []int{2})
}

// Where the sites lie follows from what is called: the same code, other placements, for variables and News.
func TestPlacement(t *testing.T) {
	s := begun(t, of(t, fn(0, 0, 3, "v0 = &v1;v2 = f1(v0);v2 = new 1;v2 = f1(v2);return"), fn(1, 1, 1, "return v0")))
	heap := func(want bool) {
		t.Helper()
		r := s.Result()
		if r.Vars[0][1] != want || r.Code[0][2] != want || r.Vars[0][0] || r.Vars[0][2] || r.Code[0][0] || r.Code[0][1] || r.Code[0][3] {
			t.Errorf("W9: on the heap: %v, %v, want v1 and the New: %v", r.Vars[0], r.Code[0], want)
		}
	}
	heap(false)
	for range 3 {
		solves(t, "stored", s, []int{1}, of(t, fn(1, 1, 1, "g0 = v0;return v0")).Funcs, []int{1}, []int{0})
		heap(true)
		solves(t, "not stored", s, []int{1}, of(t, fn(1, 1, 1, "return v0")).Funcs, []int{1}, []int{0})
		heap(false)
	}
}
