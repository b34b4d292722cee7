package plan_test

import (
	"math"
	"slices"
	"testing"

	"fugue/api"
	"fugue/code"
	"fugue/plan"
)

// with: the program with one thing in it changed.
func with(t *testing.T, change func(p *api.Program)) api.Program {
	t.Helper()
	p := ladder(t)
	change(&p)
	return p
}

// The program's error counts ahead of what its moves are, and of what the budgets are.
func TestWrongPrograms(t *testing.T) {
	for _, c := range []struct {
		p    api.Program
		want api.Errno
	}{
		{api.Program{}, api.ErrHead},
		{with(t, func(p *api.Program) { p.Globals = -1 }), api.ErrGlobal},
		{with(t, func(p *api.Program) { p.Globals = api.MaxGlobals + 1 }), api.ErrGlobal},
		{with(t, func(p *api.Program) { p.Funcs = nil }), api.ErrHead},
		{with(t, func(p *api.Program) { p.Funcs = slices.Repeat(p.Funcs[2:], api.MaxFuncs+1) }), api.ErrHead},
		{with(t, func(p *api.Program) { p.Funcs[1].Vars = api.MaxVars + 1 }), api.ErrHead},
		{with(t, func(p *api.Program) { p.Funcs[1].Params = math.MinInt }), api.ErrHead},
		{with(t, func(p *api.Program) { p.Funcs[1].Results = math.MaxInt }), api.ErrHead},
		{with(t, func(p *api.Program) { p.Funcs[2].Code = jumps(api.MaxCode + 1) }), api.ErrHead},
		{with(t, func(p *api.Program) { p.Funcs[2].Code = nil }), api.ErrEnd},
		{with(t, func(p *api.Program) { p.Funcs[2].Code = p.Funcs[2].Code[:1] }), api.ErrEnd},
		{with(t, func(p *api.Program) { p.Funcs[0].Code[1].Op = 0 }), api.ErrOp},
		{with(t, func(p *api.Program) { p.Funcs[0].Code[1].Op = 18 }), api.ErrOp},
		{with(t, func(p *api.Program) { p.Funcs[0].Code[1].R = 1 }), api.ErrArg},
		{with(t, func(p *api.Program) { p.Funcs[0].Code[1].Args[0] = 2 }), api.ErrVar},
		{with(t, func(p *api.Program) { p.Funcs[0].Code[2].Rets[0] = math.MinInt }), api.ErrVar},
		{with(t, func(p *api.Program) { p.Funcs[2].Code[0].N = 0 }), api.ErrField},
		{with(t, func(p *api.Program) { p.Funcs[0].Code[0] = api.Instr{Op: api.Get, N: 2} }), api.ErrGlobal},
		{with(t, func(p *api.Program) { p.Funcs[0].Code[1].N = 3 }), api.ErrFunc},
		{with(t, func(p *api.Program) { p.Funcs[0].Code[1].N = -1 }), api.ErrFunc},
		{with(t, func(p *api.Program) { p.Funcs[0].Code[1].N = math.MaxInt }), api.ErrFunc},
		{with(t, func(p *api.Program) { p.Funcs[0].Code[1].Args = nil }), api.ErrArity},
		{with(t, func(p *api.Program) { p.Funcs[2].Code[1].Args = nil }), api.ErrArity},
		{with(t, func(p *api.Program) { p.Funcs[0].Code[0] = api.Instr{Op: api.Jump, N: 7} }), api.ErrJump},
		{with(t, func(p *api.Program) { p.Funcs = append(p.Funcs, fullOf(api.MaxLocs)...) }), api.ErrTooLarge},
	} {
		if e := code.Check(c.p); e != c.want {
			t.Fatalf("the test's program has the error %d, not %d", e, c.want)
		}
		for _, l := range [][]api.Move{nil, {}, moves(0, 1), moves(0, 1, 0, 1), moves(0, 0), moves(-1, math.MaxInt), moves(0, 2, 0, 1), moves(1, 0, 2, 0, 7, 7)} {
			checked(t, "a wrong program", c.p, l, c.want)
		}
		for _, n := range []int{math.MinInt, -1, 0, 1, 100, math.MaxInt} {
			if l, e := plan.Make(c.p, n, 100); e != c.want || len(l) > 0 {
				t.Errorf("P16.2: a wrong program: Make(%d, 100): %v, error %d, want %d alone", n, l, e, c.want)
			}
			if l, e := plan.Make(c.p, 100, n); e != c.want || len(l) > 0 {
				t.Errorf("P16.2: a wrong program: Make(100, %d): %v, error %d, want %d alone", n, l, e, c.want)
			}
		}
	}
}
