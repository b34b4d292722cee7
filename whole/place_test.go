package whole_test

import (
	"slices"
	"testing"

	"fugue/api"
	"fugue/code"
)

// What is on the heap hangs on the summaries that are handed in, whether they are a solution or not.
func TestPlaceBySummaries(t *testing.T) {
	p := of(t, fn(0, 1, 6, "v0 = &v1; v2 = new 1; v5 = null; v3, v4 = f1(v0, v2); v5 = new 2; v5 = new 3; return v3"),
		fn(2, 2, 2, "return v0, v1"))
	with := func(heap0, heap1, r00, r01, r10, r11 int) []api.Summary {
		return []api.Summary{{}, sum([]int{heap0, heap1}, []int{r00, r01}, []int{r10, r11})}
	}
	placed(t, "nothing flows", p, with(none, none, none, none, none, none), "")
	placed(t, "the first to the heap", p, with(0, none, none, none, none, none), "0 var 1")
	placed(t, "what is behind it", p, with(1, none, none, none, none, none), "")
	placed(t, "the second to the heap", p, with(none, 0, none, none, none, none), "0 new 1")
	placed(t, "both", p, with(0, 0, none, none, none, none), "0 var 1, 0 new 1")
	placed(t, "the first to what is returned", p, with(none, none, 0, none, none, none), "0 var 1")
	placed(t, "the first to what is not", p, with(none, none, none, 0, none, none), "")
	placed(t, "the second to what is returned", p, with(none, none, none, none, 0, none), "0 new 1")
	placed(t, "the second to what is not", p, with(none, none, none, none, none, 0), "")
	placed(t, "more than is told apart", p, with(3, 3, 3, 3, 3, 3), "")
	placed(t, "everything", p, with(0, 0, 0, 0, 0, 0), "0 var 1, 0 new 1")
}

// One's own summary makes no difference for oneself, where one does not call oneself.
func TestPlaceOfOnesOwnSummary(t *testing.T) {
	p := of(t, fn(1, 1, 2, "v1 = &v0; return v1"))
	for _, d := range []int{0, 1, 2, 3, none} {
		placed(t, "one function", p, []api.Summary{one(d, d)}, "0 var 0")
	}
	p = of(t, fn(1, 1, 3, "v1 = &v2; v1 = f0(v1); return v0"))
	placed(t, "one that calls itself", p, []api.Summary{one(none, none)}, "")
	placed(t, "one that calls itself", p, []api.Summary{one(1, 0)}, "")
	placed(t, "one that calls itself", p, []api.Summary{one(0, none)}, "0 var 2")
}

// Variables and News of several functions, of all of which the document's numbers of locations count results ahead.
func TestPlaceOfManySites(t *testing.T) {
	p := of(t,
		fn(0, 0, 3, "v0 = new 1; v1 = int 4; v2 = new 1; g0 = v2; v0 = new 8; return"),
		fn(1, 4, 5, "v1 = new 1; v2 = new 1; v3 = &v4; v3.0 = v3; jump 5; return v0, v0, v2, v0"),
		fn(3, 0, 3, "return"),
		fn(8, 2, 9, "v8 = &v7; v6 = new 2; v6 = v8; return v6, v5"))
	placed(t, "many sites", p, all(p, none), "0 new 2, 1 var 4, 1 new 1, 3 var 7, 3 new 1")
	placed(t, "many sites", p, all(p, 0), "0 new 2, 1 var 4, 1 new 1, 3 var 7, 3 new 1")
}

// Code that no jump reaches counts.
func TestPlaceOfWhatIsNotReached(t *testing.T) {
	p := of(t, fn(0, 0, 2, "return; v0 = new 1; g0 = v0; v0 = f1(v1); return"), fn(1, 1, 2, "return v0"))
	placed(t, "not reached", p, []api.Summary{{}, one(0, 0)}, "0 new 1")
}

func TestRightSummariesWithoutLists(t *testing.T) {
	p := of(t, fn(0, 2, 1, "return v0, v0"), fn(2, 0, 2, "return"))
	empty := []api.Summary{{Heap: []int{}, Result: [][]int{}}, sum([]int{none, none}, []int{}, []int{})}
	bare := []api.Summary{{}, sum([]int{none, none}, nil, nil)}
	for _, l := range [][]api.Summary{empty, bare} {
		told(t, "R4", p, l, true)
		placed(t, "R4", p, l, "")
	}
}

func TestWrongSummaries(t *testing.T) {
	p := of(t, fn(0, 0, 0, "return"), fn(1, 2, 1, "return v0, v0"), fn(2, 1, 2, "return v1"))
	good := func() []api.Summary {
		return []api.Summary{{}, sum([]int{none}, []int{0, 0}), sum([]int{none, none}, []int{none}, []int{0})}
	}
	told(t, "a right list", p, good(), true)
	refused(t, "none", p, nil, api.ErrArg)
	refused(t, "none", p, []api.Summary{}, api.ErrArg)
	refused(t, "one too few", p, good()[:2], api.ErrArg)
	refused(t, "one too few", p, good()[1:], api.ErrArg)
	refused(t, "one too many", p, append(good(), api.Summary{}), api.ErrArg)
	for what, wrong := range map[string]api.Summary{
		"nothing":                {},
		"a number too few":       sum([]int{none}, []int{none}, []int{0}),
		"a number too many":      sum([]int{none, none, none}, []int{none}, []int{0}),
		"a list too few":         sum([]int{none, none}, []int{none}),
		"a list too many":        sum([]int{none, none}, []int{none}, []int{0}, []int{0}),
		"a result's too few":     sum([]int{none, none}, []int{none}, []int{}),
		"a result's too many":    sum([]int{none, none}, []int{none}, []int{0, 0}),
		"a list that is nil":     sum([]int{none, none}, nil, []int{0}),
		"another one's":          sum([]int{none}, []int{0, 0}),
		"lists the other way":    sum([]int{none, none}, []int{none, 0}),
		"one parameter too many": sum([]int{none, none, none}, []int{none}, []int{0}, []int{0}),
	} {
		l := good()
		l[2] = wrong
		refused(t, what, p, l, api.ErrArg)
	}
	for i := range places(good()) {
		for _, d := range []int{-1, 4, 5, 8, 10, -9, 1 << 40, -1 << 63} {
			l := good()
			*places(l)[i] = d
			refused(t, "a number that may not be", p, l, api.ErrArg)
		}
		for _, d := range []int{0, 1, 2, 3, none} {
			l := good()
			*places(l)[i] = d
			told(t, "a number that may be", p, l, alikeSums(l, good()))
		}
	}
	l := good()
	l[0] = one(0, 0)
	refused(t, "numbers of a function without parameters", p, l, api.ErrArg)
}

// wrongPrograms: each refused by code.Check, in its own way.
func wrongPrograms() []api.Program {
	with := func(f api.Func) api.Program { return api.Program{Globals: 1, Funcs: []api.Func{f}} }
	return []api.Program{
		{},
		{Globals: 17, Funcs: []api.Func{{Code: []api.Instr{ret()}}}},
		{Globals: -1, Funcs: []api.Func{{Code: []api.Instr{ret()}}}},
		with(api.Func{}),
		with(api.Func{Params: 9, Vars: 9, Code: []api.Instr{ret()}}),
		with(api.Func{Params: -1, Code: []api.Instr{ret()}}),
		with(api.Func{Results: 5, Vars: 1, Code: []api.Instr{ret(0, 0, 0, 0, 0)}}),
		with(api.Func{Params: 2, Vars: 1, Code: []api.Instr{ret()}}),
		with(api.Func{Vars: 256, Code: []api.Instr{ret()}}),
		with(api.Func{Code: []api.Instr{{Op: 99}, ret()}}),
		with(api.Func{Vars: 1, Code: []api.Instr{{Op: api.Null, R: 1}, ret()}}),
		with(api.Func{Code: []api.Instr{call(1, nil, nil), ret()}}),
		with(api.Func{Code: []api.Instr{call(-1, nil, nil), ret()}}),
		with(api.Func{Vars: 1, Code: []api.Instr{call(0, []int{0}, nil), ret()}}),
		with(api.Func{Vars: 1, Code: []api.Instr{ret(0)}}),
		with(api.Func{Code: []api.Instr{{Op: api.Jump, N: 2}, ret()}}),
		with(api.Func{Vars: 1, Code: []api.Instr{{Op: api.New, N: 9}, ret()}}),
		with(api.Func{Vars: 1, Code: []api.Instr{{Op: api.Set, N: 1}, ret()}}),
		with(api.Func{Vars: 1, Code: []api.Instr{{Op: api.Null}}}),
		with(api.Func{Vars: 1, Code: []api.Instr{{Op: api.Null, N: 3}, ret()}}),
		{Funcs: slices.Repeat([]api.Func{{Code: []api.Instr{ret()}}}, api.MaxFuncs+1)},
		{Funcs: slices.Repeat([]api.Func{{Vars: 255, Code: []api.Instr{ret()}}}, 4113)},
	}
}

// The error of code.Check is told ahead of ErrArg.
func TestWrongPrograms(t *testing.T) {
	for i, p := range wrongPrograms() {
		want := code.Check(p)
		if want == api.OK {
			t.Fatalf("program %d is right", i)
		}
		refused(t, "a wrong program with summaries", p, make([]api.Summary, len(p.Funcs)), want)
		refused(t, "a wrong program without summaries", p, nil, want)
		refused(t, "a wrong program and wrong summaries", p, []api.Summary{one(77, 77)}, want)
		unsolved(t, p, want)
	}
}
