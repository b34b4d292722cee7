package cache_test

import (
	"math"
	"slices"
	"testing"

	"fugue/api"
	"fugue/cache"
	"fugue/code"
)

// many: functions with so many variables in all.
func many(vars int) []api.Func {
	var l []api.Func
	for ; vars > 0; vars -= api.MaxVars {
		l = append(l, api.Func{Vars: min(vars, api.MaxVars), Code: []api.Instr{ret()}})
	}
	return l
}

// base: three functions with a New, calls, and something on the heap.
func base(t *testing.T) api.Program {
	t.Helper()
	return of(t, fn(1, 0, 2, "v1 = new 1;v1 = f1(v0);f2(v1);return"), fn(1, 1, 1, "f2(v0);return v0"), fn(1, 0, 1, "g0 = v0;jump 0"))
}

// spoils: what makes the base wrong, and by which error.
var spoils = []struct {
	spoil func(p *api.Program)
	want  api.Errno
}{
	{func(p *api.Program) { *p = api.Program{} }, api.ErrHead},
	{func(p *api.Program) { p.Globals = -1 }, api.ErrGlobal},
	{func(p *api.Program) { p.Globals = api.MaxGlobals + 1 }, api.ErrGlobal},
	{func(p *api.Program) { p.Globals, p.Funcs = math.MinInt, nil }, api.ErrGlobal},
	{func(p *api.Program) { p.Funcs = nil }, api.ErrHead},
	{func(p *api.Program) { p.Funcs = []api.Func{} }, api.ErrHead},
	{func(p *api.Program) { p.Globals, p.Funcs[0].Code[0].N = 0, 9 }, api.ErrField},
	{func(p *api.Program) { p.Funcs[1].Vars = api.MaxVars + 1 }, api.ErrHead},
	{func(p *api.Program) { p.Funcs[1].Vars = math.MaxInt }, api.ErrHead},
	{func(p *api.Program) { p.Funcs[1].Vars = 0 }, api.ErrHead},
	{func(p *api.Program) { p.Funcs[1].Params = math.MinInt }, api.ErrHead},
	{func(p *api.Program) { p.Funcs[1].Results = api.MaxResults + 1 }, api.ErrHead},
	{func(p *api.Program) { p.Funcs[2].Code = slices.Repeat(p.Funcs[2].Code, api.MaxCode) }, api.ErrHead},
	{func(p *api.Program) { p.Funcs[2].Code = nil }, api.ErrEnd},
	{func(p *api.Program) { p.Funcs[2].Code = p.Funcs[2].Code[:1] }, api.ErrEnd},
	{func(p *api.Program) { p.Funcs[0].Code[1].Op = 0 }, api.ErrOp},
	{func(p *api.Program) { p.Funcs[2].Code[0].Op = math.MinInt }, api.ErrOp},
	{func(p *api.Program) { p.Funcs[0].Code[1].R = 1 }, api.ErrArg},
	{func(p *api.Program) { p.Funcs[0].Code[1].Args[0] = 2 }, api.ErrVar},
	{func(p *api.Program) { p.Funcs[0].Code[1].Rets[0] = math.MinInt }, api.ErrVar},
	{func(p *api.Program) { p.Funcs[0].Code[0].N = 0 }, api.ErrField},
	{func(p *api.Program) { p.Funcs[2].Code[0].N = 2 }, api.ErrGlobal}, // though the closed program would have it
	{func(p *api.Program) { p.Globals = 0 }, api.ErrGlobal},
	{func(p *api.Program) { p.Funcs[0].Code[1].N = 3 }, api.ErrFunc},
	{func(p *api.Program) { p.Funcs[0].Code[1].N = -1 }, api.ErrFunc},
	{func(p *api.Program) { p.Funcs[0].Code[1].N = math.MaxInt }, api.ErrFunc},
	{func(p *api.Program) { p.Funcs[0].Code[1].Args = nil }, api.ErrArity},
	{func(p *api.Program) { p.Funcs[2].Params = 0 }, api.ErrArity},
	{func(p *api.Program) { p.Funcs[2].Code[1].N = 2 }, api.ErrJump},
	{func(p *api.Program) { p.Funcs = append(p.Funcs, many(api.MaxLocs)...) }, api.ErrTooLarge},
	{func(p *api.Program) { p.Funcs = append(p.Funcs, slices.Repeat(many(1), api.MaxFuncs-2)...) }, api.ErrHead},
}

// spoilt: the base with one thing in it wrong.
func spoilt(t *testing.T, spoil func(p *api.Program), want api.Errno) api.Program {
	t.Helper()
	p := base(t)
	spoil(&p)
	if e := code.Check(p); e != want {
		t.Fatalf("the test's program has the error %d, not %d", e, want)
	}
	return p
}

// Wrong programs, of which most have components that are right: nothing is learnt, whether the cache is new or knows all.
func TestWrongPrograms(t *testing.T) {
	full := cache.New()
	agreesOn(t, full, base(t))
	for _, c := range spoils {
		p := spoilt(t, c.spoil, c.want)
		refuses(t, "a new cache", cache.New(), p, c.want)
		refuses(t, "one that knows the base", full, p, c.want)
		refuses(t, "one with what is nothing", loaded(t, bytesOf(item{"", "", ""}, item{"a", "b", "c"})), p, c.want)
	}
	solves(t, "behind all that", full, base(t), 0)
}

// Of several violations the first counts.
func TestFirstViolation(t *testing.T) {
	p := base(t)
	p.Funcs[0].Code[1].Args[0] = 7
	p.Funcs[1].Code[0].N = 9
	refuses(t, "a variable ahead of a function", cache.New(), p, api.ErrVar)
	p.Funcs[2].Vars = 0
	refuses(t, "a head ahead of both", cache.New(), p, api.ErrHead)
}

func TestNilCache(t *testing.T) {
	var c *cache.Cache
	programs := []api.Program{base(t), several(t), chapter(t)}
	for _, x := range spoils {
		programs = append(programs, spoilt(t, x.spoil, x.want))
	}
	for _, p := range programs {
		if r, n, e := c.Solve(p); e != api.ErrArg || n != 0 || !noResult(r) {
			t.Errorf("P21.4: Solve of a nil cache: %s, %d passes, error %d, want ErrArg alone", brief(r), n, e)
		}
	}
	if b := c.Bytes(); len(b) > 0 {
		t.Errorf("P21.4: Bytes of a nil cache: %v", b)
	}
}

// Right programs of every kind, the least and such as never end.
func TestRightPrograms(t *testing.T) {
	c := cache.New()
	for _, p := range []api.Program{
		{Funcs: []api.Func{{Code: []api.Instr{ret()}}}},
		{Globals: api.MaxGlobals, Funcs: []api.Func{{Code: []api.Instr{{Op: api.Jump}}}}},
		{Globals: 3, Funcs: []api.Func{{Code: []api.Instr{{Op: api.Return, Args: []int{}, Rets: []int{}}}}}}, // R4
		of(t, fn(1, 1, 2, "v1 = f0(v0);return v1")),
		of(t, fn(0, 0, 2, "v0 = f1();v1 = v0.0;return"), fn(0, 1, 2, "v0 = int 5;v1 = &v0;return v1")),
		of(t, fn(0, 0, 0, "return"), fn(0, 1, 3, "v0 = new 1;v1 = v0;v2 = &v1;return v2")),
		of(t, fn(1, 0, 2, "f1(v0);return"), fn(1, 0, 2, "v1 = new 1;v0.0 = v1;f0(v1);return")),
	} {
		agreesOn(t, cache.New(), p)
		agreesOn(t, c, p)
		solves(t, "again", c, p, 0)
	}
}
