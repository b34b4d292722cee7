package inline_test

import (
	"math"
	"slices"
	"testing"

	"fugue/api"
	"fugue/code"
	"fugue/plan"
)

// ladder: f0 calls f1 and f2 several times, f1 calls f2; no instruction of f2 is a call.
func ladder(t *testing.T) api.Program {
	t.Helper()
	return of(t,
		fn(0, 0, 2, "v0 = int 1;f1(v0);v1 = f2();f1(v1);v1 = f2();print v1;return"),
		fn(1, 0, 2, "v1 = f2();v1 = f2();return"),
		fn(0, 1, 1, "v0 = new 2;return v0"))
}

// with: the program with one thing in it changed.
func with(t *testing.T, change func(p *api.Program)) api.Program {
	t.Helper()
	p := ladder(t)
	change(&p)
	return p
}

// The program's error counts ahead of what its moves are.
func TestWrongPrograms(t *testing.T) {
	for _, c := range []struct {
		p    api.Program
		want api.Errno
	}{
		{api.Program{}, api.ErrHead},
		{with(t, func(p *api.Program) { p.Globals = -1 }), api.ErrGlobal},
		{with(t, func(p *api.Program) { p.Globals = api.MaxGlobals + 1 }), api.ErrGlobal},
		{with(t, func(p *api.Program) { p.Funcs = nil }), api.ErrHead},
		{with(t, func(p *api.Program) { p.Funcs = slices.Repeat(p.Funcs[2:], api.MaxFuncs+1) }), api.ErrHead},
		{with(t, func(p *api.Program) { p.Funcs[1].Vars = api.MaxVars + 1 }), api.ErrHead},
		{with(t, func(p *api.Program) { p.Funcs[1].Params = math.MinInt }), api.ErrHead},
		{with(t, func(p *api.Program) { p.Funcs[1].Results = math.MaxInt }), api.ErrHead},
		{with(t, func(p *api.Program) { p.Funcs[2].Code = jumps(api.MaxCode + 1) }), api.ErrHead},
		{with(t, func(p *api.Program) { p.Funcs[2].Code = nil }), api.ErrEnd},
		{with(t, func(p *api.Program) { p.Funcs[2].Code = p.Funcs[2].Code[:1] }), api.ErrEnd},
		{with(t, func(p *api.Program) { p.Funcs[0].Code[1].Op = 0 }), api.ErrOp},
		{with(t, func(p *api.Program) { p.Funcs[2].Code[0].Op = 18 }), api.ErrOp},
		{with(t, func(p *api.Program) { p.Funcs[2].Code[0].Op = math.MinInt }), api.ErrOp},
		{with(t, func(p *api.Program) { p.Funcs[0].Code[1].R = 1 }), api.ErrArg},
		{with(t, func(p *api.Program) { p.Funcs[2].Code[1].Rets = []int{0} }), api.ErrArg},
		{with(t, func(p *api.Program) { p.Funcs[0].Code[1].Args[0] = 2 }), api.ErrVar},
		{with(t, func(p *api.Program) { p.Funcs[0].Code[2].Rets[0] = math.MinInt }), api.ErrVar},
		{with(t, func(p *api.Program) { p.Funcs[2].Code[1].Args[0] = 1 }), api.ErrVar},
		{with(t, func(p *api.Program) { p.Funcs[2].Code[0].N = 0 }), api.ErrField},
		{with(t, func(p *api.Program) { p.Funcs[0].Code[0] = api.Instr{Op: api.Get, N: 2} }), api.ErrGlobal},
		{with(t, func(p *api.Program) { p.Funcs[0].Code[1].N = 3 }), api.ErrFunc},
		{with(t, func(p *api.Program) { p.Funcs[0].Code[1].N = math.MaxInt }), api.ErrFunc},
		{with(t, func(p *api.Program) { p.Funcs[0].Code[1].Args = nil }), api.ErrArity},
		{with(t, func(p *api.Program) { p.Funcs[2].Code[1].Args = nil }), api.ErrArity},
		{with(t, func(p *api.Program) { p.Funcs[0].Code[0] = api.Instr{Op: api.Jump, N: 7} }), api.ErrJump},
		{with(t, func(p *api.Program) { p.Funcs = append(p.Funcs, fullOf(api.MaxLocs)...) }), api.ErrTooLarge},
	} {
		if e := code.Check(c.p); e != c.want {
			t.Fatalf("the test's program has the error %d, not %d", e, c.want)
		}
		for _, l := range [][]api.Move{nil, {}, moves(0, 1), moves(0, 1, 0, 1), moves(0, 0), moves(-1, math.MaxInt), moves(0, 2, 0, 1), moves(1, 0, 2, 0, 7, 7)} {
			refused(t, "a wrong program", c.p, l, c.want)
		}
	}
}

// Moves that are no plan: out of order, twice, of nothing, of what is no Call.
func TestNoPlans(t *testing.T) {
	p := ladder(t)
	for _, l := range [][]api.Move{
		moves(0, 2, 0, 1), moves(1, 0, 0, 4), moves(1, 1, 1, 0), moves(0, 1, 1, 0, 0, 2),
		moves(0, 1, 0, 1), moves(0, 1, 0, 2, 0, 1), moves(1, 1, 1, 1), moves(0, 1, 0, 2, 0, 2, 1, 0),
		moves(0, 0), moves(0, 5), moves(0, 6), moves(0, 7), moves(1, 2), moves(1, 3), moves(2, 0), moves(2, 1), moves(2, 2), moves(3, 0),
		moves(0, 1, 0, 6), moves(0, 1, 3, 0), moves(-1, 0, 0, 1),
	} {
		refused(t, "no plan", p, l, api.ErrPlan)
	}
	for _, n := range ends {
		refused(t, "no function", p, moves(n, 1), api.ErrPlan)
		refused(t, "no place", p, moves(0, n), api.ErrPlan)
		refused(t, "nothing", p, moves(0, 1, n, n), api.ErrPlan)
		refused(t, "nothing", p, moves(n, n, 0, 1), api.ErrPlan)
	}
	applied(t, "a plan", p, moves(0, 1, 0, 2, 0, 3, 0, 4, 1, 0, 1, 1))
}

// Calls that may not be inlined: of what has an Addr, and within a ring.
func TestCallsThatStay(t *testing.T) {
	p := of(t,
		fn(0, 0, 1, "f1();f2();f3();f0();return"),
		fn(0, 0, 1, "v0 = &v0;return"),
		fn(0, 0, 1, "return;v0 = &v0;return"),
		fn(0, 0, 0, "f4();f1();return"),
		fn(0, 0, 0, "f4();f3();f5();return"),
		fn(0, 0, 0, "return"))
	may := moves(0, 2, 4, 2)
	for n, f := range p.Funcs {
		for at := range f.Code {
			if l := moves(n, at); !slices.Contains(may, l[0]) {
				refused(t, "a call that may not be inlined", p, l, api.ErrPlan)
				refused(t, "with one that may be", p, append(moves(0, 2), l...), api.ErrPlan)
			}
		}
	}
	becomes(t, "those that may be", p, may,
		fn(0, 0, 1, "f1();f2();f4();f1();jump 5;f0();return"),
		fn(0, 0, 1, "v0 = &v0;return"),
		fn(0, 0, 1, "return;v0 = &v0;return"),
		fn(0, 0, 0, "f4();f1();return"),
		fn(0, 0, 0, "f4();f3();jump 3;return"))
}

// All lists of at most two moves of a small program: refused just where plan.Check refuses them.
func TestAsPlanCheckSays(t *testing.T) {
	p := ladder(t)
	var single []api.Move
	for n := -1; n <= len(p.Funcs); n++ {
		for at := -1; at <= 8; at++ {
			single = append(single, api.Move{Func: n, At: at})
		}
	}
	passed := 0
	for _, a := range single {
		for _, b := range single {
			for _, l := range [][]api.Move{{a}, {a, b}} {
				if e := plan.Check(p, l); e != api.OK {
					refused(t, "as plan.Check says", p, l, e)
				} else if got := told(t, applied(t, "as plan.Check says", p, l)); got != plainText(p, l) {
					t.Fatalf("P17.2: %s becomes\n%s", brief(l), got)
				} else {
					passed++
				}
			}
		}
	}
	if passed < 15 {
		t.Errorf("only %d plans", passed)
	}
}
