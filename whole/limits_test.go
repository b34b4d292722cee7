package whole_test

import (
	"math/rand"
	"runtime/debug"
	"slices"
	"testing"

	"fugue/api"
	"fugue/whole"
)

// long: as many functions as there may be, each of which hands its parameter on by that step; the one at the base lays it into a global, and in a chain calls nobody.
func long(step, base int, ring bool) api.Program {
	const many = api.MaxFuncs
	p := api.Program{Globals: 1, Funcs: make([]api.Func, many)}
	for n := range many {
		code := []api.Instr{call((n+step+many)%many, []int{0}, []int{1}), ret(1)}
		if n == base {
			code = append(code[:1:1], api.Instr{Op: api.Set}, ret(1))
			if !ring {
				code = code[1:]
			}
		}
		p.Funcs[n] = api.Func{Params: 1, Results: 1, Vars: 2, Code: code}
	}
	return p
}

func allHandOn(t *testing.T, what string, r api.Result, e api.Errno) {
	t.Helper()
	if e != api.OK || len(r.Sums) != api.MaxFuncs || heap(r) != "" {
		t.Fatalf("%s: %d summaries, error %d", what, len(r.Sums), e)
	}
	for f, s := range r.Sums {
		if !alikeSum(s, one(0, none)) {
			t.Fatalf("%s: the function %d: %v", what, f, s)
		}
	}
}

// Chains and rings as long as there may be, callees ahead of callers and behind them, in a stack too small for a call each.
func TestLongOnes(t *testing.T) {
	defer debug.SetMaxStack(debug.SetMaxStack(1 << 20))
	for _, p := range []api.Program{long(1, api.MaxFuncs-1, false), long(-1, 0, false), long(1, api.MaxFuncs-1, true), long(-1, 30000, true)} {
		r, e := whole.Solve(p)
		allHandOn(t, "P10.3: a long one", r, e)
		r, e = whole.Anyhow(p)
		allHandOn(t, "P10.4: a long one, without picks", r, e)
		told(t, "a long one", p, r.Sums, true)
		r, e = whole.Place(p, r.Sums)
		allHandOn(t, "P10.1: a long one", r, e)
		r.Sums[40000].Heap[0] = 1
		told(t, "a long one with another number", p, r.Sums, false)
	}
}

// More picks than passes: from the upper end, from the middle, anywhere.
func TestLongPicks(t *testing.T) {
	random := rand.New(rand.NewSource(1))
	upper, anywhere := slices.Repeat([]int{-1}, 4*api.MaxFuncs), make([]int, 4*api.MaxFuncs)
	for i := range anywhere {
		anywhere[i] = int(random.Uint64())
	}
	for _, picks := range [][]int{upper, anywhere, anywhere[:1000]} {
		r, e := whole.Anyhow(long(1, api.MaxFuncs-1, false), picks...)
		allHandOn(t, "P10.4: a long chain, with picks", r, e)
	}
	r, e := whole.Anyhow(long(-1, 0, true), anywhere...)
	allHandOn(t, "P10.4: a long ring, with picks", r, e)
}

// As many functions as there may be all call one, whose numbers fall, and which calls itself.
func TestManyCallers(t *testing.T) {
	p := long(0, 0, true)
	for n := range p.Funcs {
		p.Funcs[n].Code = []api.Instr{call(7, []int{0}, []int{1}), call(7, []int{0}, []int{1}), ret(1)}
	}
	p.Funcs[7].Code = []api.Instr{call(7, []int{0}, []int{1}), {Op: api.Set, S: 1}, {Op: api.If, S: 0, N: 4}, ret(1), ret(0)}
	for _, picks := range [][]int{{7, 7, 7}, slices.Repeat([]int{-1}, api.MaxFuncs)} {
		r, e := whole.Anyhow(p, picks...)
		if e != api.OK || heap(r) != "" {
			t.Fatalf("P10.4: many callers: error %d", e)
		}
		for f, s := range r.Sums {
			if !alikeSum(s, one(0, 0)) {
				t.Fatalf("P10.4: many callers: the function %d: %v", f, s)
			}
		}
	}
}

// A function with as many variables and News as may be, all of which escape.
func TestLongCode(t *testing.T) {
	var code []api.Instr
	for range api.MaxCode - 2 - (api.MaxVars - 1) {
		code = append(code, api.Instr{Op: api.New, R: 254, N: 8})
	}
	for v := range api.MaxVars - 1 {
		code = append(code, api.Instr{Op: api.Addr, R: v, S: v + 1})
	}
	code = append(code, api.Instr{Op: api.Set, S: 0}, ret(1, 2, 3, 4))
	p := api.Program{Globals: 1, Funcs: []api.Func{{Params: 8, Results: 4, Vars: api.MaxVars, Code: code}}}
	r, e := whole.Solve(p)
	if e != api.OK || !shaped(p, r) || r.Vars[0][0] || slices.Contains(r.Vars[0][1:], false) {
		t.Fatalf("P10.3: a long function: %v, error %d", r.Vars, e)
	}
	for at, x := range code {
		if r.Code[0][at] != (x.Op == api.New) {
			t.Fatalf("P10.1: a long function: at %d: %v", at, r.Code[0][at])
		}
	}
}
