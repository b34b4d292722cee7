package why_test

import (
	"math"
	"slices"
	"testing"

	"fugue/api"
	"fugue/code"
	"fugue/why"
)

// base: two functions with a New, calls and all on the heap.
func base(t *testing.T) api.Program {
	t.Helper()
	return of(t, fn(0, 0, 2, "v0 = new 1;v1 = f1(v0);f2(v1);return"), fn(1, 1, 1, "return v0"), fn(1, 0, 1, "g0 = v0;jump 0"))
}

// with: it with one thing in it changed.
func with(t *testing.T, change func(p *api.Program)) api.Program {
	t.Helper()
	p := base(t)
	change(&p)
	return p
}

// many: functions with so many variables in all.
func many(vars int) []api.Func {
	var l []api.Func
	for ; vars > 0; vars -= api.MaxVars {
		l = append(l, api.Func{Vars: min(vars, api.MaxVars), Code: []api.Instr{ret()}})
	}
	return l
}

// The program's error counts ahead of what the site and the steps are.
func TestWrongPrograms(t *testing.T) {
	for _, c := range []struct {
		p    api.Program
		want api.Errno
	}{
		{api.Program{}, api.ErrHead},
		{with(t, func(p *api.Program) { p.Globals = -1 }), api.ErrGlobal},
		{with(t, func(p *api.Program) { p.Globals = api.MaxGlobals + 1 }), api.ErrGlobal},
		{with(t, func(p *api.Program) { p.Funcs = nil }), api.ErrHead},
		{with(t, func(p *api.Program) { p.Funcs = slices.Repeat(p.Funcs[1:2], api.MaxFuncs+1) }), api.ErrHead},
		{with(t, func(p *api.Program) { p.Funcs[1].Vars = api.MaxVars + 1 }), api.ErrHead},
		{with(t, func(p *api.Program) { p.Funcs[1].Vars = math.MaxInt }), api.ErrHead},
		{with(t, func(p *api.Program) { p.Funcs[1].Vars = 0 }), api.ErrHead},
		{with(t, func(p *api.Program) { p.Funcs[1].Params = math.MinInt }), api.ErrHead},
		{with(t, func(p *api.Program) { p.Funcs[1].Results = math.MaxInt }), api.ErrHead},
		{with(t, func(p *api.Program) { p.Funcs[1].Results = api.MaxResults + 1 }), api.ErrHead},
		{with(t, func(p *api.Program) { p.Funcs[2].Code = slices.Repeat(p.Funcs[2].Code, api.MaxCode) }), api.ErrHead},
		{with(t, func(p *api.Program) { p.Funcs[2].Code = nil }), api.ErrEnd},
		{with(t, func(p *api.Program) { p.Funcs[2].Code = p.Funcs[2].Code[:1] }), api.ErrEnd},
		{with(t, func(p *api.Program) { p.Funcs[0].Code[1].Op = 0 }), api.ErrOp},
		{with(t, func(p *api.Program) { p.Funcs[2].Code[0].Op = 18 }), api.ErrOp},
		{with(t, func(p *api.Program) { p.Funcs[2].Code[0].Op = math.MinInt }), api.ErrOp},
		{with(t, func(p *api.Program) { p.Funcs[0].Code[1].R = 1 }), api.ErrArg},
		{with(t, func(p *api.Program) { p.Funcs[2].Code[1].Rets = []int{0} }), api.ErrArg},
		{with(t, func(p *api.Program) { p.Funcs[0].Code[1].Args[0] = 2 }), api.ErrVar},
		{with(t, func(p *api.Program) { p.Funcs[0].Code[1].Rets[0] = math.MinInt }), api.ErrVar},
		{with(t, func(p *api.Program) { p.Funcs[2].Code[0].S = 1 }), api.ErrVar},
		{with(t, func(p *api.Program) { p.Funcs[0].Code[0].N = 0 }), api.ErrField},
		{with(t, func(p *api.Program) { p.Funcs[2].Code[0].N = 2 }), api.ErrGlobal},
		{with(t, func(p *api.Program) { p.Funcs[0].Code[1].N = 3 }), api.ErrFunc},
		{with(t, func(p *api.Program) { p.Funcs[0].Code[1].N = math.MaxInt }), api.ErrFunc},
		{with(t, func(p *api.Program) { p.Funcs[0].Code[1].Args = nil }), api.ErrArity},
		{with(t, func(p *api.Program) { p.Funcs[1].Code[0].Args = nil }), api.ErrArity},
		{with(t, func(p *api.Program) { p.Funcs[2].Code[1].N = 2 }), api.ErrJump},
		{with(t, func(p *api.Program) { p.Funcs = append(p.Funcs, many(api.MaxLocs)...) }), api.ErrTooLarge},
	} {
		if e := code.Check(c.p); e != c.want {
			t.Fatalf("the test's program has the error %d, not %d", e, c.want)
		}
		good := found(t, "the program", base(t), cell(0, 0))
		for _, s := range []api.Site{cell(0, 0), variable(0, 0), variable(9, 0), variable(0, -1), {Func: -1, At: math.MinInt, Var: math.MaxInt}, {At: 1, Var: 1}} {
			missing(t, "a wrong program", c.p, s, c.want)
			for _, w := range [][]api.Step{nil, {}, good, good[:1], {{Func: -1}}, {{Func: math.MaxInt, Rule: 9}}} {
				if e := why.Check(c.p, s, w); e != c.want {
					t.Errorf("P18.1: a wrong program: Check of %v with %v: error %d, want %d", s, w, e, c.want)
				}
				printsNot(t, "a wrong program", c.p, w, c.want)
			}
		}
	}
}

// What is no site counts ahead of what the steps are.
func TestNoSites(t *testing.T) {
	p := base(t)
	w := found(t, "the program", p, cell(0, 0))
	var l []api.Site
	for _, n := range append([]int{-1, 3}, far...) {
		l = append(l, variable(n, 0), cell(n, 0))
	}
	for _, n := range append([]int{-1, 2}, far...) {
		l = append(l, variable(0, n))
	}
	for _, n := range append([]int{1, 2, 3, 4, 5}, far...) {
		l = append(l, cell(0, n))
	}
	for _, n := range append([]int{-1, 1, 2}, far...) {
		l = append(l, api.Site{At: 0, Var: n}, api.Site{At: n, Var: n}, api.Site{At: -2, Var: n})
	}
	l = append(l, variable(1, 1), variable(2, 1), cell(1, 0), cell(2, 0), cell(2, 1), api.Site{At: -2}, api.Site{At: 1, Var: 1})
	for _, s := range l {
		missing(t, "no site", p, s, api.ErrSite)
		for _, x := range [][]api.Step{nil, w, w[:1], {{Func: -1}}, {{Rule: math.MinInt}}} {
			if e := why.Check(p, s, x); e != api.ErrSite {
				t.Errorf("P18.1: Check of %v, which is no site, with %v: error %d", s, x, e)
			}
		}
	}
	q := of(t, fn(0, 0, 0, "return"))
	for _, s := range []api.Site{variable(0, 0), cell(0, 0)} {
		missing(t, "no site at all", q, s, api.ErrSite)
		if e := why.Check(q, s, nil); e != api.ErrSite {
			t.Errorf("P18.1: Check of a site of a program without sites: error %d", e)
		}
	}
}

// A list without steps is no witness of a site, on the heap or not.
func TestNoSteps(t *testing.T) {
	p := base(t)
	l, on := sites(t, p)
	for _, s := range l {
		fails(t, "no steps", p, s, nil)
		fails(t, "no steps", p, s, []api.Step{})
	}
	if !slices.Contains(on, true) || !slices.Contains(on, false) {
		t.Fatal("the test's program has sites of one kind alone")
	}
}

// Steps whose numbers are anything, alone, ahead of a witness, within it and behind it.
func TestWildSteps(t *testing.T) {
	p := base(t)
	x := cell(0, 0)
	w := found(t, "the program", p, x)
	for _, n := range append([]int{-1, 4, 5, 6, api.None}, far...) {
		for _, m := range []int{0, 1, 2, 3, 4, 5, n} {
			for _, s := range steps(numbers{n, 0, 0, 0, m, 0}, numbers{0, n, n, 0, m, 0}, numbers{0, 0, n, 0, m, 0}, numbers{0, 0, 0, n, m, 0}, numbers{0, 0, 1, -1, n, m}, numbers{0, 0, 0, 0, m, n}, numbers{n, n, n, n, m, n}) {
				for i := range len(w) + 1 {
					fails(t, "a wild step", p, x, slices.Insert(slices.Clone(w), i, s))
				}
				fails(t, "a wild step", p, x, []api.Step{s})
			}
		}
	}
}
