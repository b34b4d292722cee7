package incr_test

import (
	"math"
	"slices"
	"testing"

	"fugue/api"
	"fugue/code"
	"fugue/incr"
)

// base: three functions with a New, calls, and something on the heap; f2 goes ahead of f1, and both ahead of f0.
func base(t *testing.T) api.Program {
	t.Helper()
	return of(t, fn(1, 0, 2, "v1 = new 1;v1 = f1(v0);f2(v1);return"), fn(1, 1, 1, "f2(v0);return v0"), fn(1, 0, 1, "g0 = v0;jump 0"))
}

// many: functions with so many variables in all.
func many(vars int) []api.Func {
	var l []api.Func
	for ; vars > 0; vars -= api.MaxVars {
		l = append(l, api.Func{Vars: min(vars, api.MaxVars), Code: []api.Instr{ret()}})
	}
	return l
}

// spoils: what makes the base wrong, and by which error.
var spoils = []struct {
	spoil func(p *api.Program)
	want  api.Errno
}{
	{func(p *api.Program) { p.Funcs[1].Vars = api.MaxVars + 1 }, api.ErrHead},
	{func(p *api.Program) { p.Funcs[1].Vars = math.MaxInt }, api.ErrHead},
	{func(p *api.Program) { p.Funcs[1].Vars = 0 }, api.ErrHead},
	{func(p *api.Program) { p.Funcs[1].Params = math.MinInt }, api.ErrHead},
	{func(p *api.Program) { p.Funcs[1].Params = math.MaxInt }, api.ErrHead},
	{func(p *api.Program) { p.Funcs[1].Results = math.MaxInt }, api.ErrHead},
	{func(p *api.Program) { p.Funcs[1].Results = api.MaxResults + 1 }, api.ErrHead},
	{func(p *api.Program) { p.Funcs[2].Code = slices.Repeat(p.Funcs[2].Code, api.MaxCode) }, api.ErrHead},
	{func(p *api.Program) { p.Funcs[2].Code = nil }, api.ErrEnd},
	{func(p *api.Program) { p.Funcs[0] = api.Func{} }, api.ErrEnd},
	{func(p *api.Program) { p.Funcs[2].Code = p.Funcs[2].Code[:1] }, api.ErrEnd},
	{func(p *api.Program) { p.Funcs[0].Code[1].Op = 0 }, api.ErrOp},
	{func(p *api.Program) { p.Funcs[2].Code[0].Op = 18 }, api.ErrOp},
	{func(p *api.Program) { p.Funcs[2].Code[0].Op = math.MinInt }, api.ErrOp},
	{func(p *api.Program) { p.Funcs[0].Code[1].R = 1 }, api.ErrArg},
	{func(p *api.Program) { p.Funcs[2].Code[1].Rets = []int{0} }, api.ErrArg},
	{func(p *api.Program) { p.Funcs[0].Code[1].Args[0] = 2 }, api.ErrVar},
	{func(p *api.Program) { p.Funcs[0].Code[1].Rets[0] = math.MinInt }, api.ErrVar},
	{func(p *api.Program) { p.Funcs[2].Code[0].S = 1 }, api.ErrVar},
	{func(p *api.Program) { p.Funcs[0].Code[0].N = 0 }, api.ErrField},
	{func(p *api.Program) { p.Funcs[0].Code[0].N = api.MaxFields + 1 }, api.ErrField},
	{func(p *api.Program) { p.Funcs[2].Code[0].N = 2 }, api.ErrGlobal},
	{func(p *api.Program) { p.Funcs[0].Code[1].N = 3 }, api.ErrFunc},
	{func(p *api.Program) { p.Funcs[0].Code[1].N = math.MaxInt }, api.ErrFunc},
	{func(p *api.Program) { p.Funcs[0].Code[1].N = -1 }, api.ErrFunc},
	{func(p *api.Program) { p.Funcs[0].Code[1].Args = nil }, api.ErrArity},
	{func(p *api.Program) { p.Funcs[1].Code[1].Args = nil }, api.ErrArity},
	{func(p *api.Program) { p.Funcs[1].Results, p.Funcs[1].Code[1].Args = 0, nil }, api.ErrArity}, // of the call in f0
	{func(p *api.Program) { p.Funcs[2].Params = 0 }, api.ErrArity},
	{func(p *api.Program) { p.Funcs[2].Code[1].N = 2 }, api.ErrJump},
	{func(p *api.Program) { p.Funcs = append(p.Funcs, many(api.MaxLocs)...) }, api.ErrTooLarge},
	{func(p *api.Program) { p.Funcs = append(p.Funcs, slices.Repeat(many(1), api.MaxFuncs-2)...) }, api.ErrHead},
}

// spoilt: the base with one thing in it wrong.
func spoilt(t *testing.T, spoil func(p *api.Program), want api.Errno) api.Program {
	t.Helper()
	p := base(t)
	spoil(&p)
	if e := code.Check(p); e != want {
		t.Fatalf("the test's program has the error %d, not %d", e, want)
	}
	return p
}

func TestNewOfWrongPrograms(t *testing.T) {
	begun(t, base(t))
	wrong := append(slices.Clone(spoils), []struct {
		spoil func(p *api.Program)
		want  api.Errno
	}{
		{func(p *api.Program) { *p = api.Program{} }, api.ErrHead},
		{func(p *api.Program) { p.Globals = -1 }, api.ErrGlobal},
		{func(p *api.Program) { p.Globals = api.MaxGlobals + 1 }, api.ErrGlobal},
		{func(p *api.Program) { p.Funcs = nil }, api.ErrHead},
		{func(p *api.Program) { p.Funcs = []api.Func{} }, api.ErrHead},
		{func(p *api.Program) { p.Globals, p.Funcs = -1, nil }, api.ErrGlobal},
	}...)
	for i, c := range wrong {
		if s, e := incr.New(spoilt(t, c.spoil, c.want)); e != c.want || s != nil {
			t.Errorf("P20.1: the wrong program %d: New: %v, error %d, want nil and the error %d", i, s != nil, e, c.want)
		}
	}
}

// A session begins with any right program, and its result is the least solution's.
func TestNewOfRightPrograms(t *testing.T) {
	for _, p := range []api.Program{
		{Funcs: []api.Func{{Code: []api.Instr{ret()}}}},
		{Globals: api.MaxGlobals, Funcs: []api.Func{{Code: []api.Instr{{Op: api.Jump}}}}},
		of(t, fn(1, 1, 2, "v1 = f0(v0);return v1")), // less than what it would be a solution with, too
		of(t, fn(0, 0, 2, "v0 = f1();v1 = v0.0;return"), fn(0, 1, 2, "v0 = int 5;v1 = &v0;return v1")),
		of(t, fn(0, 0, 0, "return"), fn(0, 1, 3, "v0 = new 1;v1 = v0;v2 = &v1;return v2")),
		of(t, fn(1, 0, 2, "f1(v0);return"), fn(1, 0, 2, "v1 = new 1;v0.0 = v1;f0(v1);return")),
	} {
		begun(t, p)
	}
}

func TestNilSession(t *testing.T) {
	var s *incr.Session
	f := api.Func{Code: []api.Instr{ret()}}
	for _, c := range []struct {
		at []int
		fs []api.Func
	}{{nil, nil}, {[]int{}, []api.Func{}}, {[]int{0}, []api.Func{f}}, {[]int{-1}, []api.Func{f}}, {[]int{0}, nil}, {[]int{0}, []api.Func{{}}}} {
		if l, e := s.Change(c.at, c.fs); e != api.ErrArg || len(l) > 0 {
			t.Errorf("R3: Change of a nil session: %v, error %d, want ErrArg alone", l, e)
		}
	}
	if p := s.Program(); p.Globals != 0 || len(p.Funcs) > 0 {
		t.Errorf("P20.4: Program of a nil session: %+v", p)
	}
	if r := s.Result(); len(r.Sums)+len(r.Vars)+len(r.Code) > 0 {
		t.Errorf("P20.4: Result of a nil session: %+v", r)
	}
}
