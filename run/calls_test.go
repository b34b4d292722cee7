package run_test

import (
	"slices"
	"testing"

	"fugue/api"
)

func TestExamples(t *testing.T) {
	one := program(t, "func params 0 results 0 vars 3", "v0 = new 1", "v1 = int 7", "v0.0 = v1", "v2 = v0.0", "print v2", "return")
	runsAlike(t, "example 1", one, api.Trace{Prints: []api.Value{num(7)}, Steps: 6})
	two := program(t, "func params 0 results 0 vars 2", "v0 = f1()", "v1 = v0.0", "return", "func params 0 results 1 vars 2", "v0 = int 5", "v1 = &v0", "return v1")
	runs(t, "example 2 in the frame", two, inFrame(two), api.Trace{End: api.Dangle, Steps: 5})
	runs(t, "example 2 on the heap", two, onHeap(two), api.Trace{Steps: 6})
	runsAlike(t, "example 3, Nils", body(t, "v0.0 = v0"), api.Trace{End: api.Nils, Steps: 1})
	runsAlike(t, "example 3, Fields", body(t, "v0 = new 1", "v1 = v0.1"), api.Trace{End: api.Fields, Steps: 2})
}

// Args and Rets that share variables: all Args are read ahead of all Rets, and of one that stands there twice the last wins.
func TestArgsAndRets(t *testing.T) {
	callee := []string{"func params 2 results 2 vars 3", "print v2", "v2 = int 7", "return v1, v0"}
	for _, c := range []struct {
		call string
		a, b int // v0 and v1 behind it; they were 1 and 2
	}{
		{"v0, v1 = f1(v0, v1)", 2, 1},
		{"v1, v0 = f1(v0, v1)", 1, 2},
		{"v0, v1 = f1(v1, v0)", 1, 2},
		{"v0, v1 = f1(v0, v0)", 1, 1},
		{"v0, v0 = f1(v0, v1)", 1, 2},
		{"v1, v1 = f1(v1, v0)", 1, 2},
		{"v1, v1 = f1(v0, v1)", 1, 1},
		{"v0, v0 = f1(v1, v0)", 2, 2},
	} {
		lines := append([]string{"func params 0 results 0 vars 3", "v0 = int 1", "v1 = int 2", c.call, "print v0", "print v1", "print v2", "return"}, callee...)
		runsAlike(t, c.call, program(t, lines...), api.Trace{Prints: []api.Value{null, num(c.a), num(c.b), null}, Steps: 10})
	}
}

func TestReturnsArgs(t *testing.T) {
	p := program(t, "func params 0 results 4 vars 4", "v0, v1, v2, v3 = f1()", "return v3, v3, v0, v1",
		"func params 0 results 4 vars 3", "v0 = int 1", "v1 = new 1", "return v0, v1, v2, v0")
	runsAlike(t, "four results", p, api.Trace{Results: []api.Value{num(1), num(1), num(1), some}, Steps: 5})
}

// The frame of function 0 too is popped: what lies in it is gone, and the results are told behind that.
func TestTheLastReturn(t *testing.T) {
	p := program(t, "func params 1 results 4 vars 3", "v1 = &v0", "v2 = new 3", "g1 = v2", "return v0, v1, v2, v0")
	want := api.Trace{Results: []api.Value{num(9), some, some, num(9)}, Steps: 4}
	runsAlike(t, "the last return", p, want, num(9))
	for _, c := range []struct {
		h    api.Result
		live []int
	}{{inFrame(p), nil}, {onHeap(p), []int{1, 2, 3, 4}}} {
		m := begun(t, p, c.h, num(9))
		steps(t, m, 3)
		if m.Step() {
			t.Error("P4.2: a run goes on behind its last Return")
		}
		if s := look(m); !slices.Equal(s.live, c.live) || !slices.Equal(s.roots, []api.Value{null, ptr(4), null, null}) || !sameTrace(s.trace, want) {
			t.Errorf("P4.2: behind the last Return: %+v; want the cells %v", s, c.live)
		}
	}
}

func TestFunction0IsLikeAnyOther(t *testing.T) {
	p := program(t, "func params 1 results 1 vars 3", "v1 = g0", "if v1 jump 6", "v1 = int 5", "g0 = v1", "v2 = f0(v1)", "print v2", "print v0", "v0 = v0 + v0", "return v0")
	runsAlike(t, "a function 0 that calls itself", p, api.Trace{Prints: []api.Value{num(5), num(10), num(3)}, Results: []api.Value{num(6)}, Steps: 14}, num(3))
}

// Each call's variables are its own, nil at first but the parameters, whatever lay in those of another one.
func TestVariablesAreNew(t *testing.T) {
	p := program(t, "func params 0 results 0 vars 1", "v0 = int 3", "f1(v0)", "print v0", "f1(v0)", "return",
		"func params 1 results 0 vars 4", "print v0", "print v1", "print v3", "v1 = int 8", "v3 = v1", "v0 = v2", "return")
	runsAlike(t, "new variables", p, api.Trace{Prints: []api.Value{num(3), null, null, num(3), num(3), null, null}, Steps: 19})
	q := program(t, "func params 0 results 1 vars 2", "v0 = int 4", "v1 = f1(v0)", "return v1",
		"func params 1 results 1 vars 4", "if v0 jump 2", "return v0", "v1 = int -1", "v1 = v0 + v1", "v2 = f1(v1)", "v3 = v2 + v0", "return v3")
	runsAlike(t, "a ring", q, api.Trace{Results: []api.Value{num(10)}, Steps: 29})
}

func TestPlacesOfFrames(t *testing.T) {
	p := program(t, "func params 0 results 0 vars 1", "f1()", "f1()", "f2()", "return",
		"func params 0 results 0 vars 1", "f2()", "v0 = int 1", "print v0", "return",
		"func params 0 results 0 vars 1", "v0 = int 2", "print v0", "jump 4", "f2()", "return")
	runsAlike(t, "callers go on behind their calls", p, api.Trace{Prints: []api.Value{num(2), num(1), num(2), num(1), num(2)}, Steps: 24})
}

// A pointer to the caller's variable is good as long as the caller is there.
func TestPointersIntoOlderFrames(t *testing.T) {
	p := program(t, "func params 0 results 0 vars 2", "v0 = int 1", "v1 = &v0", "f1(v1)", "print v0", "return",
		"func params 1 results 0 vars 2", "v1 = v0.0", "print v1", "f2(v0)", "return",
		"func params 1 results 0 vars 2", "v1 = int 6", "v0.0 = v1", "return")
	runsAlike(t, "pointers down the frames", p, api.Trace{Prints: []api.Value{num(1), num(6)}, Steps: 12})
}
