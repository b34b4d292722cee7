package why_test

import (
	"runtime/debug"
	"slices"
	"strings"
	"testing"

	"fugue/api"
	"fugue/why"
)

// long: as many functions as there may be, each of which calls the one by that step with the address of a variable of its own, and with its parameter; the one at the base lays its parameter into a global, and in a chain calls nobody. Locations: the heap, the parameter, the variable, what has its address.
func long(step, base int, ring bool) api.Program {
	const many = api.MaxFuncs
	p := api.Program{Globals: 1, Funcs: make([]api.Func, many)}
	for n := range many {
		next := (n + step + many) % many
		code := []api.Instr{{Op: api.Addr, R: 2, S: 1}, call(next, []int{2}, nil), call(next, []int{0}, nil), ret()}
		if n == base {
			code = append(code[:3:3], api.Instr{Op: api.Set}, ret())
			if !ring {
				code = code[3:]
			}
		}
		p.Funcs[n] = api.Func{Params: 1, Vars: 3, Code: code}
	}
	return p
}

// Chains and rings as long as there may be, callees ahead of callers and behind them, in a stack too small for a call each.
func TestLongOnes(t *testing.T) {
	defer debug.SetMaxStack(debug.SetMaxStack(1 << 20))
	const last = api.MaxFuncs - 1
	for _, c := range []struct {
		p           api.Program
		first, away int // how many functions the first is away from the base
	}{{long(1, last, false), 0, last}, {long(-1, 0, false), last, last}, {long(1, last, true), 0, last}, {long(-1, 30000, true), 29999, last}} {
		s := variable(c.first, 1)
		w := found(t, "a long one", c.p, s)
		if want := 2*c.away + 3; len(w) != want {
			t.Errorf("P18.2: a long one: %d steps, of which %d are needed", len(w), want)
		}
		text, e := why.Print(c.p, w)
		if e != api.OK || strings.Count(text, "\n") != len(w) {
			t.Errorf("P18.3: a long one: %d lines, error %d", strings.Count(text, "\n"), e)
		}
		fails(t, "a long one without a step", c.p, s, without(w, len(w)/2))
		missing(t, "a long one", c.p, variable(c.first, 2), api.ErrSite)
	}
}

// A function with as many variables as may be, in a chain; and with as many instructions, News among them, all of which escape.
func TestLongCode(t *testing.T) {
	var code []api.Instr
	for v := range api.MaxVars - 1 {
		code = append(code, api.Instr{Op: api.Copy, R: v, S: v + 1})
	}
	for range api.MaxCode - len(code) - 2 {
		code = append(code, api.Instr{Op: api.New, R: 254, N: 8})
	}
	code = append(code, api.Instr{Op: api.Set}, ret(0, 0, 0, 0))
	p := api.Program{Globals: 1, Funcs: []api.Func{{Params: 8, Results: 4, Vars: api.MaxVars, Code: code}}}
	for _, at := range []int{254, 255, 3000, api.MaxCode - 3} {
		if w := found(t, "a long function", p, cell(0, at)); len(w) != 1+api.MaxVars+1 {
			t.Errorf("P18.2: a long function: %d steps", len(w))
		}
	}
	missing(t, "a long function", p, variable(0, 254), api.ErrSite)
	missing(t, "a long function", p, cell(0, 253), api.ErrSite)
	var w []api.Step
	w = append(w, api.Step{Rule: 1}, api.Step{Src: 5, Rule: 2, At: api.MaxCode - 2})
	for v := range api.MaxVars - 1 {
		w = append(w, api.Step{Src: 6 + v, Rule: 2, At: v})
	}
	for at := 254; at < api.MaxCode-2; at++ {
		w = append(w, api.Step{Src: 260 + at - 254, Derefs: -1, Rule: 2, At: at})
		passes(t, "a long function", p, cell(0, at), w[:len(w):len(w)])
		w = append(w, api.Step{Src: 260 + at - 254, Rule: 5})
		if at == 500 {
			break
		}
	}
	fails(t, "a long function", p, cell(0, 500), w)
	p.Funcs[0].Code[254].Op = api.Jump
	if e := why.Check(p, cell(0, 500), w); e != api.ErrArg {
		t.Errorf("P18.1: a Jump with a variable: error %d", e)
	}
}

// Calls with as many arguments and results as may be, each laid into a variable of its own.
func TestWideCalls(t *testing.T) {
	p := of(t,
		fn(0, 4, 20, "v0 = new 1;v1 = new 1;v2 = new 1;v3 = new 1;v4 = new 1;v5 = new 1;v6 = new 1;v7 = new 1;v8, v9, v10, v11 = f1(v0, v1, v2, v3, v4, v5, v6, v7);return v11, v10, v9, v8"),
		fn(8, 4, 9, "g0 = v3;g1 = v5;if v0 jump 5;v8 = v7.0;return v6, v4, v2, v0;return v8, v8, v8, v8"))
	var heap []int
	for _, s := range onHeap(t, p) {
		heap = append(heap, s.At)
	}
	if !slices.Equal(heap, []int{0, 2, 3, 4, 5, 6}) {
		t.Fatalf("on the heap: %v", heap)
	}
	agrees(t, "wide calls", p)
}

// As many locations as there may be.
func TestManyLocations(t *testing.T) {
	p := base(t)
	p.Funcs = append(p.Funcs, many(api.MaxLocs-1-2-1-1-1)...)
	found(t, "as many locations as may be", p, cell(0, 0))
	missing(t, "as many locations as may be", p, variable(len(p.Funcs)-1, 0), api.ErrSite)
	p.Funcs = append(p.Funcs, many(1)...)
	missing(t, "one more", p, cell(0, 0), api.ErrTooLarge)
}

// Many steps, and one at the end that does not stand.
func TestLongLists(t *testing.T) {
	p, w := example(t)
	x := variable(0, 0)
	l := joined(slices.Repeat(w, 1<<17), w)
	passes(t, "a long list", p, x, l)
	text, e := why.Print(p, l)
	line, _ := why.Print(p, w)
	if e != api.OK || text != strings.Repeat(line, 1<<17+1) {
		t.Errorf("P18.3: a long list: %d bytes, error %d", len(text), e)
	}
	l[len(l)-2].At = 0
	fails(t, "a long list", p, x, l)
	l[len(l)-2].At = 3
	printsNot(t, "a long list", p, l, api.ErrWitness)
}

// Many calls of one function, and a function that many call: none is asked again and again.
func TestManyCalls(t *testing.T) {
	p := of(t, fn(0, 0, 2, "v1 = &v0;return"), fn(1, 1, 2, "if v0 jump 3;v1 = f1(v0);return v1;return v0"))
	code := p.Funcs[0].Code[:1:1]
	for range api.MaxCode - 3 {
		code = append(code, call(1, []int{1}, []int{1}))
	}
	p.Funcs[0].Code = append(code, api.Instr{Op: api.Set, S: 1}, ret())
	found(t, "many calls", p, variable(0, 0))
	const callers = 3000
	for n := 2; n < callers; n++ {
		another := 1 + n*7919%(callers-1)
		p.Funcs = append(p.Funcs, api.Func{Params: 1, Results: 1, Vars: 2, Code: []api.Instr{call(another, []int{0}, []int{1}), call(1, []int{0}, []int{1}), {Op: api.Addr, R: 1, S: 0}, ret(1)}})
	}
	for _, n := range []int{0, 2, 1500, callers - 1} {
		found(t, "many callers", p, variable(n, 0))
	}
}
