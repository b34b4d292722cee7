package solve_test

import (
	"math"
	"slices"
	"testing"

	"fugue/api"
	"fugue/calls"
	"fugue/solve"
)

func far() []int {
	return []int{math.MinInt, -1 << 32, -2, -1, 1 << 16, 1 << 32, math.MaxInt}
}

// The chapter's and flow's reasons for Function's ErrArg.
func TestFunctionRefuses(t *testing.T) {
	p := of(t, fn(1, 1, 2, "v1 = f1(v0); return v1"), fn(1, 1, 2, "g0 = v0; return v1"))
	sums := lowest(p)
	passes(t, "a right one", p, 0, sums)
	for _, f := range append(far(), 2, 3) {
		refused(t, "no such function", p, f, sums)
	}
	refused(t, "no functions", api.Program{}, 0, nil)
	for f := range 2 {
		refused(t, "no summaries", p, f, nil)
		refused(t, "too few summaries", p, f, sums[:1])
		refused(t, "too many summaries", p, f, append(lowest(p), api.Summary{}))
	}
	for _, n := range append(far(), api.MaxGlobals+1) {
		q := p
		q.Globals = n
		refused(t, "Globals", q, 1, sums)
	}
	for _, s := range wrongSums() {
		refused(t, "a callee's summary", p, 0, []api.Summary{{}, s})
	}
	for _, f := range wrongFuncs() {
		q := api.Program{Globals: 1, Funcs: []api.Func{f}}
		refused(t, "a function that is not right", q, 0, []api.Summary{every(api.Func{Params: 1, Results: 1}, none)})
	}
	for _, g := range wrongHeads() {
		q := api.Program{Funcs: []api.Func{p.Funcs[0], g}}
		refused(t, "a callee's head", q, 0, []api.Summary{{}, every(p.Funcs[0], none)})
	}
}

// What Function does not look at: the code of others, heads and summaries of those that are not called, its own summary too.
func TestWhatFunctionPassesOver(t *testing.T) {
	p := of(t, fn(1, 1, 2, "v1 = f1(v0); return v1"), fn(1, 1, 2, "g0 = v0; return v1"), fn(0, 0, 0, "return"))
	n := none
	for _, s := range wrongSums() {
		solves(t, "summaries of those that are not called", p, 1, []api.Summary{s, s, s}, nil, sum([]int{0}, []int{n}))
		solves(t, "its own summary and another's", p, 0, []api.Summary{s, sum([]int{1}, []int{2}), s}, nil, sum([]int{1}, []int{2}))
	}
	for _, f := range append(wrongFuncs(), wrongHeads()...) {
		head := api.Func{Params: 1, Results: 1, Vars: 2, Code: f.Code}
		q := api.Program{Funcs: []api.Func{p.Funcs[0], head, f}}
		solves(t, "the code of a callee, and one that is not called", q, 0, []api.Summary{{}, sum([]int{1}, []int{2}), {}}, nil, sum([]int{1}, []int{2}))
	}
}

// wrongSums: none of them is right for a function with one parameter and one result.
func wrongSums() []api.Summary {
	l := []api.Summary{{}, {Heap: []int{0}}, {Result: [][]int{{0}}}, sum([]int{0, 0}, []int{0}), sum([]int{0}, []int{0}, []int{0}), sum([]int{0}, []int{0, 0}), sum([]int{0}, nil), sum(nil, []int{0})}
	for _, d := range append(far(), 4, 8, 10) {
		l = append(l, sum([]int{d}, []int{0}), sum([]int{0}, []int{d}))
	}
	return l
}

// wrongFuncs: none of them is right in a program of one global.
func wrongFuncs() []api.Func {
	var l []api.Func
	for _, code := range [][]api.Instr{
		nil, {{Op: api.Null}}, {{Op: 99}}, {{}}, {ret()}, {ret(0, 0)}, {ret(2)}, {ret(-1)}, {{Op: api.Copy, R: 2}, ret(0)}, {{Op: api.Copy, S: -1}, ret(0)},
		{{Op: api.New}, ret(0)}, {{Op: api.New, N: 9}, ret(0)}, {{Op: api.Set, N: 1}, ret(0)}, {{Op: api.Jump, N: 1}}, {{Op: api.Null, N: 1}, ret(0)},
		{call(9, []int{0}, []int{0}), ret(0)}, {call(-1, []int{0}, []int{0}), ret(0)}, {call(0, nil, []int{0}), ret(0)}, {call(0, []int{0}, nil), ret(0)}, {call(0, []int{0}, []int{2}), ret(0)},
		{call(math.MaxInt, []int{0}, []int{0}), ret(0)}, {call(math.MinInt, []int{0}, []int{0}), ret(0)}, slices.Repeat([]api.Instr{ret(0)}, api.MaxCode+1),
	} {
		l = append(l, api.Func{Params: 1, Results: 1, Vars: 2, Code: code})
	}
	return l
}

// wrongHeads: those that may not be, with code that has nothing of them.
func wrongHeads() []api.Func {
	var l []api.Func
	for _, h := range [][3]int{{-1, 1, 2}, {9, 1, 9}, {3, 1, 2}, {1, -1, 2}, {1, 5, 2}, {1, 1, 0}, {1, 1, -1}, {1, 1, 256}, {math.MaxInt, 1, math.MaxInt}, {1, math.MaxInt, 1}, {math.MinInt, math.MinInt, math.MinInt}} {
		l = append(l, api.Func{Params: h[0], Results: h[1], Vars: h[2], Code: []api.Instr{{Op: api.Jump}}})
	}
	return l
}

func TestComponentWithoutAGraph(t *testing.T) {
	p := of(t, fn(0, 0, 0, "return"))
	for _, c := range append(far(), 0, 1) {
		refusedRing(t, "no graph", p, nil, c, lowest(p))
	}
	refusedRing(t, "no graph, no functions", api.Program{}, nil, 0, nil)
}

func TestNoSuchComponent(t *testing.T) {
	p := of(t, fn(0, 0, 0, "f1(); f2(); return"), fn(0, 0, 0, "f0(); return"), fn(0, 0, 0, "return"))
	g := graph(t, p)
	comes(t, "the last component", p, g, 1, lowest(p), 2, api.Summary{}, api.Summary{})
	for _, c := range append(far(), g.Len(), g.Len()+1) {
		refusedRing(t, "no such component", p, g, c, lowest(p))
	}
}

// A member that is no function of the program: the graph is one of more functions.
func TestMembersThatAreNotThere(t *testing.T) {
	p := countdown(t, 3, 1, 1)
	for many := 4; many < 8; many++ {
		refusedRing(t, "members too many", p, graph(t, countdown(t, many, 1, 0)), 0, lowest(p))
	}
	refusedRing(t, "no functions at all", api.Program{}, graph(t, p), 0, nil)
	alone := graph(t, of(t, slices.Repeat([]string{fn(0, 0, 0, "return")}, 5)...))
	p = of(t, slices.Repeat([]string{fn(0, 0, 0, "return")}, 3)...)
	for c := range 5 {
		if c < 3 {
			comes(t, "a member that is there", p, alone, c, lowest(p), 1, api.Summary{})
			continue
		}
		refusedRing(t, "a member that is not there", p, alone, c, lowest(p))
	}
}

func TestHowManySummaries(t *testing.T) {
	p := countdown(t, 3, 1, 1)
	g := graph(t, p)
	for n := range 7 {
		if sums := slices.Repeat([]api.Summary{{}}, n); n != 3 {
			refusedRing(t, "summaries too few or too many", p, g, 0, sums)
		}
	}
	p = of(t, fn(0, 0, 0, "return"))
	refusedRing(t, "no summaries of one that calls nobody", p, graph(t, p), 0, nil)
	refusedRing(t, "two summaries of one function", p, graph(t, p), 0, make([]api.Summary, 2))
}

// Whatever is wrong with a member, wherever it stands, all are refused; wrong functions besides are passed over.
func TestMembersThatAreWrong(t *testing.T) {
	right := countdown(t, 4, 1, 1)
	three := graph(t, countdown(t, 3, 1, 1))
	right.Funcs[2].Code[0].N = 0 // three in a ring, and a fourth
	sums := lowest(right)
	want, asked, e := solve.Component(right, three, 0, sums)
	if e != api.OK || len(want) != 3 {
		t.Fatalf("P8.3: a right one: %v, error %d", want, e)
	}
	for _, f := range append(wrongFuncs(), wrongHeads()...) {
		for n := range 4 {
			p := api.Program{Globals: 1, Funcs: slices.Clone(right.Funcs)}
			p.Funcs[n] = f
			if n < 3 {
				refusedRing(t, "a member that is wrong", p, three, 0, sums)
				continue
			}
			comes(t, "one besides that is wrong", p, three, 0, sums, asked, want...)
		}
	}
	for _, n := range append(far(), api.MaxGlobals+1) {
		p := right
		p.Globals = n
		refusedRing(t, "Globals", p, three, 0, sums)
	}
}

// Of those that are called the heads and summaries count, their code does not; of those that are not called nothing.
func TestOthers(t *testing.T) {
	p := of(t, fn(1, 1, 2, "v1 = f2(v0); return v1"), fn(1, 1, 2, "v1 = f0(v0); return v1"), fn(1, 1, 1, "return v0"))
	g := graph(t, p)
	c := g.Of(0)
	s := sum([]int{2}, []int{3})
	for _, wrong := range wrongSums() {
		refusedRing(t, "the summary of one that is called", p, g, c, []api.Summary{{}, {}, wrong})
		comes(t, "summaries of those that are not called", p, g, c, []api.Summary{wrong, wrong, s}, 2, s)
	}
	for _, f := range wrongHeads() {
		q := api.Program{Globals: 1, Funcs: []api.Func{p.Funcs[0], f, f}}
		refusedRing(t, "the head of one that is called", q, g, c, []api.Summary{{}, {}, s})
		q.Funcs[2] = p.Funcs[2]
		comes(t, "the head of one that is not called", q, g, c, []api.Summary{{}, {}, s}, 2, s)
	}
	for _, f := range wrongFuncs() {
		q := api.Program{Globals: 1, Funcs: []api.Func{p.Funcs[0], f, f}}
		comes(t, "the code of one that is called", q, g, c, []api.Summary{{}, {}, s}, 2, s)
	}
}

// A callee of a wrong number stays wrong, whatever numbers the component's functions have among themselves.
func TestCalleesThatAreNotThere(t *testing.T) {
	alone := graph(t, of(t, slices.Repeat([]string{fn(0, 0, 0, "return")}, 5)...))
	for _, n := range append(far(), 5, 6) {
		f := api.Func{Params: 1, Results: 1, Vars: 1, Code: []api.Instr{call(0, []int{0}, []int{0}), call(n, []int{0}, []int{0}), ret(0)}}
		p := api.Program{Funcs: slices.Repeat([]api.Func{f}, 5)}
		for c := range 5 {
			refusedRing(t, "a call of a function that is not there", p, alone, c, lowest(p))
		}
	}
}

func TestNothingWithoutObjects(t *testing.T) {
	var g *calls.Graph
	refusedRing(t, "the zero graph", api.Program{}, g, 0, nil)
	refusedRing(t, "the zero graph", api.Program{Funcs: make([]api.Func, 1)}, g, 0, make([]api.Summary, 1))
}
