package cert_test

import (
	"runtime/debug"
	"slices"
	"testing"

	"fugue/api"
	"fugue/cert"
)

// long: as many functions as there may be, each of which hands its parameter on by that step; the one at the base lays it into a global, and in a chain calls nobody.
func long(step, base int, ring bool) api.Program {
	const many = api.MaxFuncs
	p := api.Program{Globals: 1, Funcs: make([]api.Func, many)}
	for n := range many {
		code := []api.Instr{call((n+step+many)%many, []int{0}, []int{1}), ret(1)}
		if n == base {
			code = append(code[:1:1], api.Instr{Op: api.Set}, ret(1))
			if !ring {
				code = code[1:]
			}
		}
		p.Funcs[n] = api.Func{Params: 1, Results: 1, Vars: 2, Code: code}
	}
	return p
}

// longPasses: Make's passes of a program with as many functions as there may be, which pass.
func longPasses(t *testing.T, what string, p api.Program, r api.Result) []int {
	t.Helper()
	b, e := cert.Make(p)
	passes, is := passesOf(b)
	if e != api.OK || !is {
		t.Fatalf("P19.1: %s: %s, error %d", what, brief(b), e)
	}
	accepts(t, what, p, r, b)
	return passes
}

// Chains and rings as long as there may be, callees ahead of callers and behind them, in a stack too small for a call each. Each function changes once, behind the one that it calls.
func TestLongOnes(t *testing.T) {
	defer debug.SetMaxStack(debug.SetMaxStack(1 << 20))
	const last = api.MaxFuncs - 1
	for _, c := range []struct {
		step, base int
		ring       bool
	}{{1, last, false}, {-1, 0, false}, {1, last, true}, {-1, 30000, true}} {
		p := long(c.step, c.base, c.ring)
		r := solved(t, p)
		passes := longPasses(t, "a long one", p, r)
		var want []int
		for n := range api.MaxFuncs {
			want = append(want, (c.base-c.step*n+api.MaxFuncs)%api.MaxFuncs)
		}
		if !slices.Equal(passes, want) {
			t.Errorf("P19.1: a long one: %d passes, not just the %d that are right", len(passes), len(want))
		}
		if c.step < 0 {
			continue
		}
		refuses(t, "a long one without its last pass", p, r, bytesOf(want[:last]...))
		refuses(t, "a long one without a pass", p, r, bytesOf(slices.Delete(slices.Clone(want), 40000, 40001)...))
		refuses(t, "a long one, its first twice", p, r, bytesOf(slices.Insert(slices.Clone(want), 1, want[0])...))
		refuses(t, "a long one and one pass more", p, r, bytesOf(append(slices.Clone(want), want[last])...))
		refuses(t, "no function of as many as may be, first", p, r, bytesOf(append([]int{65535}, want...)...))
		refuses(t, "no function of as many as may be, last", p, r, bytesOf(append(want[:last:last], 65535)...))
		r.Sums[40000].Heap[0] = 1
		refuses(t, "a long one with another number", p, r, bytesOf(want...))
	}
}

// As many functions as there may be, each of which falls four times by itself: more passes than two bytes can count.
func TestManyPasses(t *testing.T) {
	one := of(t, fn(1, 0, 5, falls))
	p := api.Program{Globals: 1}
	for n := range api.MaxFuncs {
		f := one.Funcs[0]
		f.Code = slices.Clone(f.Code)
		f.Code[5] = call(n, []int{4}, nil)
		p.Funcs = append(p.Funcs, f)
	}
	r := solved(t, p)
	passes := longPasses(t, "many passes", p, r)
	if len(passes) != 4*api.MaxFuncs {
		t.Errorf("P19.1: %d passes, of which %d are needed", len(passes), 4*api.MaxFuncs)
	}
	slices.Sort(passes)
	for i, f := range passes {
		if f != i/4 {
			t.Fatalf("P19.1: not four passes for each of many functions")
		}
	}
	slices.Reverse(passes)
	accepts(t, "many passes, from the upper end", p, r, bytesOf(passes...))
	refuses(t, "many passes but one", p, r, bytesOf(passes[1:]...))
	refuses(t, "many passes and one", p, r, bytesOf(append(passes, 7)...))
}

// As many functions as there may be all call one, which falls by way of others that call it: nobody else needs to look at it more than once.
func TestManyCallers(t *testing.T) {
	p := long(0, 0, true)
	for n := range p.Funcs {
		p.Funcs[n] = api.Func{Params: 1, Vars: 2, Code: []api.Instr{call(7, []int{0}, nil), call(7, []int{0}, nil), ret()}}
	}
	p.Funcs[3].Code = []api.Instr{{Op: api.Addr, R: 1}, call(7, []int{1}, nil), ret()}
	p.Funcs[7].Vars = 4
	p.Funcs[7].Code = []api.Instr{call(3, []int{0}, nil), {Op: api.Load, R: 1}, {Op: api.Load, R: 2, S: 1}, {Op: api.Load, R: 3, S: 2}, {Op: api.Set, S: 3}, ret()}
	r := solved(t, p)
	if passes := longPasses(t, "many callers", p, r); len(passes) > api.MaxFuncs-2+7 {
		t.Errorf("P19.1: many callers: %d passes, more than one for each that only looks on", len(passes))
	}
}

// A function with as many parameters, results, variables and instructions as may be.
func TestLongCode(t *testing.T) {
	var code []api.Instr
	for v := range api.MaxVars - 1 {
		code = append(code, api.Instr{Op: api.Copy, R: v, S: v + 1})
	}
	for range api.MaxCode - len(code) - 2 {
		code = append(code, api.Instr{Op: api.New, R: 254, N: 8})
	}
	code = append(code, api.Instr{Op: api.Set}, ret(0, 1, 2, 3))
	p := api.Program{Globals: 1, Funcs: []api.Func{{Params: 8, Results: 4, Vars: api.MaxVars, Code: code}}}
	r := solved(t, p)
	if passes := makes(t, "a long function", p); !slices.Equal(passes, []int{0}) {
		t.Errorf("P19.1: a long function: the passes %v", passes)
	}
	refuses(t, "a long function, twice", p, r, bytesOf(0, 0))
	for _, at := range []int{0, 1, 39} {
		c := copied(r)
		*places(c.Sums)[at]++
		refuses(t, "a long function with another number", p, c, bytesOf(0))
	}
	for _, at := range []int{0, 254, 255, api.MaxVars + api.MaxCode - 1} {
		c := copied(r)
		*truths(c)[at] = !*truths(c)[at]
		refuses(t, "a long function with another truth", p, c, bytesOf(0))
	}
}
