package solve_test

import (
	"runtime/debug"
	"slices"
	"testing"

	"fugue/api"
	"fugue/calls"
	"fugue/solve"
)

// long: a ring or a chain of as many functions as there may be, each of which hands its parameter on by that step; the one at the base lays it into a global. In a chain the base calls nobody.
func long(step, base int, ring bool) api.Program {
	const many = api.MaxFuncs
	p := api.Program{Globals: 1, Funcs: make([]api.Func, many)}
	for n := range many {
		code := []api.Instr{call((n+step+many)%many, []int{0}, []int{1}), ret(1)}
		if n == base {
			code = append(code[:1:1], api.Instr{Op: api.Set}, ret(1))
			if !ring {
				code = code[1:]
			}
		}
		p.Funcs[n] = api.Func{Params: 1, Results: 1, Vars: 2, Code: code}
	}
	return p
}

func solvesLong(t *testing.T, p api.Program, rounds int) {
	t.Helper()
	g, e := calls.New(p)
	if e != api.OK || g.Len() != 1 {
		t.Fatalf("no ring: %d components, error %d", g.Len(), e)
	}
	l, n, e := solve.Component(p, g, 0, make([]api.Summary, len(p.Funcs)))
	if e != api.OK || n != rounds*len(p.Funcs) || len(l) != len(p.Funcs) {
		t.Fatalf("P8.3: a long ring: %d summaries, %d passes, error %d, want %d rounds", len(l), n, e, rounds)
	}
	for f, s := range l {
		if !alike(s, sum([]int{0}, []int{none})) {
			t.Fatalf("P8.3: the function %d of a long ring: %v", f, s)
		}
	}
}

// A ring as long as there may be one, in a stack too small for a call each: where one round tells all, and where each tells one more.
func TestLongRings(t *testing.T) {
	defer debug.SetMaxStack(debug.SetMaxStack(1 << 20))
	solvesLong(t, long(-1, 0, true), 2)
	solvesLong(t, long(-1, 9, true), 3)
	solvesLong(t, long(1, api.MaxFuncs-1, true), api.MaxFuncs+1)
	solvesLong(t, long(1, 0, true), api.MaxFuncs)
}

// A chain as long as there may be one, function by function: none takes longer because of the others.
func TestLongChain(t *testing.T) {
	p := long(1, api.MaxFuncs-1, false)
	g, e := calls.New(p)
	if e != api.OK || g.Len() != len(p.Funcs) {
		t.Fatalf("no chain: %d components, error %d", g.Len(), e)
	}
	sums := make([]api.Summary, len(p.Funcs))
	for c := range g.Len() {
		l, n, e := solve.Component(p, g, c, sums)
		if e != api.OK || n != 2 || len(l) != 1 || !alike(l[0], sum([]int{0}, []int{none})) {
			t.Fatalf("P8.3: the component %d of a long chain: %v, %d passes, error %d", c, l, n, e)
		}
		sums[g.Members(c)[0]] = l[0]
	}
}

// Many functions, each of which calls itself: likewise.
func TestManyRings(t *testing.T) {
	p := long(0, 0, true)
	for n := range p.Funcs {
		p.Funcs[n].Code = []api.Instr{call(n, []int{0}, []int{1}), {Op: api.Set}, ret(1)}
	}
	g, _ := calls.New(p)
	sums := make([]api.Summary, len(p.Funcs))
	for c := range g.Len() {
		if l, n, e := solve.Component(p, g, c, sums); e != api.OK || n != 2 || len(l) != 1 || !alike(l[0], sum([]int{0}, []int{none})) {
			t.Fatalf("P8.3: the component %d of many rings: %v, %d passes, error %d", c, l, n, e)
		}
	}
}

// A chain of addresses through all variables that a function may have, told in either order.
func TestLongEscapes(t *testing.T) {
	for _, backwards := range []bool{false, true} {
		code := []api.Instr{{Op: api.New, R: 254, N: 1}}
		for v := range api.MaxVars - 1 {
			code = append(code, api.Instr{Op: api.Addr, R: v, S: v + 1})
		}
		if backwards {
			slices.Reverse(code)
		}
		code = append(code, ret(0))
		p := api.Program{Funcs: []api.Func{{Params: 8, Results: 1, Vars: api.MaxVars, Code: code}}}
		escapes, s, e := solve.Function(p, 0, lowest(p))
		if e != api.OK || len(escapes) != 1+1+api.MaxVars+1 || escapes[2] || slices.Contains(escapes[3:], false) {
			t.Fatalf("P8.1: a chain of addresses: %v, error %d", escapes, e)
		}
		want := every(p.Funcs[0], 0)
		want.Heap[0] = none
		if !alike(s, want) {
			t.Errorf("P8.1: a chain of addresses: %v", s)
		}
	}
}

// As much code as may be, with as many edges: it calls itself everywhere, and its numbers fall one by one.
func TestManyCalls(t *testing.T) {
	var code []api.Instr
	for range api.MaxCode - 2 {
		code = append(code, call(0, []int{1, 2, 3, 4, 5, 6, 7, 7}, []int{251, 252, 253, 254}))
	}
	code = append(code, api.Instr{Op: api.Set}, ret(0, 252, 253, 254))
	p := api.Program{Globals: 1, Funcs: []api.Func{{Params: 8, Results: 4, Vars: api.MaxVars, Code: code}}}
	want := every(p.Funcs[0], none)
	for i := range 8 {
		want.Heap[i] = 0
	}
	want.Result[0][0] = 0
	comes(t, "as many calls as may be", p, graph(t, p), 0, lowest(p), 9, want)
}

// More functions than a program may have: how many there are does not count.
func TestMoreFunctionsThanMayBe(t *testing.T) {
	const many = api.MaxFuncs + 2
	f := api.Func{Params: 1, Results: 1, Vars: 1, Code: []api.Instr{call(many-1, []int{0}, []int{0}), ret(0)}}
	p := api.Program{Funcs: slices.Repeat([]api.Func{f}, many)}
	sums := make([]api.Summary, many)
	sums[many-1] = sum([]int{2}, []int{0})
	solves(t, "one of too many", p, 3, sums, nil, sum([]int{2}, []int{0}))
	small := of(t, fn(0, 0, 0, "return"))
	comes(t, "one of too many", p, graph(t, small), 0, sums, 2, sum([]int{2}, []int{0}))
	refusedRing(t, "a summary too few", p, graph(t, small), 0, sums[1:])
}
