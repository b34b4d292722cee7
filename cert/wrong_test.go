package cert_test

import (
	"math"
	"slices"
	"testing"

	"fugue/api"
	"fugue/cert"
	"fugue/code"
)

// base: three functions with a New, calls, and something on the heap; f2 goes ahead of f1, and both ahead of f0.
func base(t *testing.T) api.Program {
	t.Helper()
	return of(t, fn(1, 0, 2, "v1 = new 1;v1 = f1(v0);f2(v1);return"), fn(1, 1, 1, "f2(v0);return v0"), fn(1, 0, 1, "g0 = v0;jump 0"))
}

// with: it with one thing in it changed.
func with(t *testing.T, change func(p *api.Program)) api.Program {
	t.Helper()
	p := base(t)
	change(&p)
	return p
}

// many: functions with so many variables in all.
func many(vars int) []api.Func {
	var l []api.Func
	for ; vars > 0; vars -= api.MaxVars {
		l = append(l, api.Func{Vars: min(vars, api.MaxVars), Code: []api.Instr{ret()}})
	}
	return l
}

// The program's error counts ahead of what the result and the bytes are.
func TestWrongPrograms(t *testing.T) {
	good := base(t)
	r, b := solved(t, good), bytesOf(2, 1, 0)
	accepts(t, "the program as it was", good, r, b)
	for _, c := range []struct {
		p    api.Program
		want api.Errno
	}{
		{api.Program{}, api.ErrHead},
		{with(t, func(p *api.Program) { p.Globals = -1 }), api.ErrGlobal},
		{with(t, func(p *api.Program) { p.Globals = api.MaxGlobals + 1 }), api.ErrGlobal},
		{with(t, func(p *api.Program) { p.Funcs = nil }), api.ErrHead},
		{with(t, func(p *api.Program) { p.Funcs = slices.Repeat(many(1), api.MaxFuncs+1) }), api.ErrHead},
		{with(t, func(p *api.Program) { p.Funcs[1].Vars = api.MaxVars + 1 }), api.ErrHead},
		{with(t, func(p *api.Program) { p.Funcs[1].Vars = math.MaxInt }), api.ErrHead},
		{with(t, func(p *api.Program) { p.Funcs[1].Vars = 0 }), api.ErrHead},
		{with(t, func(p *api.Program) { p.Funcs[1].Params = math.MinInt }), api.ErrHead},
		{with(t, func(p *api.Program) { p.Funcs[1].Params = math.MaxInt }), api.ErrHead},
		{with(t, func(p *api.Program) { p.Funcs[1].Results = math.MaxInt }), api.ErrHead},
		{with(t, func(p *api.Program) { p.Funcs[1].Results = api.MaxResults + 1 }), api.ErrHead},
		{with(t, func(p *api.Program) { p.Funcs[2].Code = slices.Repeat(p.Funcs[2].Code, api.MaxCode) }), api.ErrHead},
		{with(t, func(p *api.Program) { p.Funcs[2].Code = nil }), api.ErrEnd},
		{with(t, func(p *api.Program) { p.Funcs[2].Code = p.Funcs[2].Code[:1] }), api.ErrEnd},
		{with(t, func(p *api.Program) { p.Funcs[0].Code[1].Op = 0 }), api.ErrOp},
		{with(t, func(p *api.Program) { p.Funcs[2].Code[0].Op = 18 }), api.ErrOp},
		{with(t, func(p *api.Program) { p.Funcs[2].Code[0].Op = math.MinInt }), api.ErrOp},
		{with(t, func(p *api.Program) { p.Funcs[0].Code[1].R = 1 }), api.ErrArg},
		{with(t, func(p *api.Program) { p.Funcs[2].Code[1].Rets = []int{0} }), api.ErrArg},
		{with(t, func(p *api.Program) { p.Funcs[0].Code[1].Args[0] = 2 }), api.ErrVar},
		{with(t, func(p *api.Program) { p.Funcs[0].Code[1].Rets[0] = math.MinInt }), api.ErrVar},
		{with(t, func(p *api.Program) { p.Funcs[2].Code[0].S = 1 }), api.ErrVar},
		{with(t, func(p *api.Program) { p.Funcs[0].Code[0].N = 0 }), api.ErrField},
		{with(t, func(p *api.Program) { p.Funcs[2].Code[0].N = 2 }), api.ErrGlobal},
		{with(t, func(p *api.Program) { p.Funcs[0].Code[1].N = 3 }), api.ErrFunc},
		{with(t, func(p *api.Program) { p.Funcs[0].Code[1].N = math.MaxInt }), api.ErrFunc},
		{with(t, func(p *api.Program) { p.Funcs[0].Code[1].N = -1 }), api.ErrFunc},
		{with(t, func(p *api.Program) { p.Funcs[0].Code[1].Args = nil }), api.ErrArity},
		{with(t, func(p *api.Program) { p.Funcs[1].Code[1].Args = nil }), api.ErrArity},
		{with(t, func(p *api.Program) { p.Funcs[2].Code[1].N = 2 }), api.ErrJump},
		{with(t, func(p *api.Program) { p.Funcs = append(p.Funcs, many(api.MaxLocs)...) }), api.ErrTooLarge},
	} {
		if e := code.Check(c.p); e != c.want {
			t.Fatalf("the test's program has the error %d, not %d", e, c.want)
		}
		if b, e := cert.Make(c.p); e != c.want || len(b) > 0 {
			t.Errorf("P19.1: a wrong program: Make: %s, error %d, want the error %d alone", brief(b), e, c.want)
		}
		for _, r := range []api.Result{r, {}, {Sums: make([]api.Summary, 3)}} {
			for _, b := range [][]byte{b, nil, {}, b[:7], bytesOf(), bytesOf(65535), make([]byte, 1000)} {
				if e := cert.Check(c.p, r, b); e != c.want {
					t.Errorf("P19.2: a wrong program: Check with %s: error %d, want %d", brief(b), e, c.want)
				}
			}
		}
	}
}

// Of results and bytes that are both wrong nothing is told but ErrCert.
func TestAllWrong(t *testing.T) {
	p := base(t)
	for _, r := range []api.Result{{}, {Sums: make([]api.Summary, 3)}, {Vars: make([][]bool, 1000), Code: make([][]bool, 3)}} {
		for _, b := range [][]byte{nil, {0x63}, {0x63, 0x65}, bytesOf(), bytesOf(2, 1, 0), bytesOf(65535), bytesOf(0, 1, 2), make([]byte, 1000)} {
			refuses(t, "all is wrong", p, r, b)
		}
	}
}
