package plan_test

import (
	"math"
	"slices"
	"testing"

	"fugue/api"
)

func chapters(t *testing.T) api.Program {
	t.Helper()
	return of(t,
		fn(0, 0, 2, "v0 = f1(v1);v0 = f2(v1);return"),
		fn(1, 1, 1, "return v0"),
		fn(1, 1, 2, "v1 = &v0;return v1"))
}

func TestChaptersExample(t *testing.T) {
	p := chapters(t)
	made(t, "the chapter's example", p, 10, 100, moves(0, 0))
	made(t, "the chapter's example", p, 0, 100, nil)
	checked(t, "a callee with an Addr", p, moves(0, 1), api.ErrPlan)
	checked(t, "a move twice", p, moves(0, 0, 0, 0), api.ErrPlan)
	checked(t, "the only one", p, moves(0, 0), api.OK)
}

func TestEmptyPlan(t *testing.T) {
	for _, p := range []api.Program{chapters(t), of(t, fn(0, 0, 0, "return")), of(t, fn(0, 0, 0, "f0();return"))} {
		checked(t, "the empty plan", p, nil, api.OK)
		checked(t, "the empty plan", p, []api.Move{}, api.OK)
		checked(t, "the empty plan, with moves in its spare room", p, moves(0, 0, 9, 9)[:0], api.OK)
	}
}

// ladder: f0 calls f1 and f2 several times, f1 calls f2; no instruction of f2 is a call.
func ladder(t *testing.T) api.Program {
	t.Helper()
	return of(t,
		fn(0, 0, 2, "v0 = int 1;f1(v0);v1 = f2();f1(v1);v1 = f2();print v1;return"),
		fn(1, 0, 2, "v1 = f2();v1 = f2();return"),
		fn(0, 1, 1, "v0 = new 2;return v0"))
}

func TestPlans(t *testing.T) {
	p := ladder(t)
	every := moves(0, 1, 0, 2, 0, 3, 0, 4, 1, 0, 1, 1)
	for bits := range 1 << len(every) {
		var l []api.Move
		for i, m := range every {
			if bits>>i&1 == 1 {
				l = append(l, m)
			}
		}
		checked(t, "some of all", p, l, api.OK)
		if len(l) > 1 {
			slices.Reverse(l)
			checked(t, "some of all, turned round", p, l, api.ErrPlan)
		}
	}
	all(t, "a ladder", p, every)
}

func TestOutOfOrder(t *testing.T) {
	p := ladder(t)
	for _, l := range [][]api.Move{
		moves(0, 2, 0, 1), moves(1, 0, 0, 4), moves(1, 1, 1, 0), moves(0, 1, 1, 0, 0, 2),
		moves(0, 1, 0, 1), moves(0, 1, 0, 2, 0, 1), moves(1, 1, 1, 1), moves(0, 1, 0, 2, 0, 2, 1, 0),
		moves(0, 2, 1, 1, 1, 0), moves(1, 0, 0, 1, 0, 2, 0, 3, 0, 4, 1, 1),
	} {
		checked(t, "out of order or twice", p, l, api.ErrPlan)
	}
	checked(t, "one move very often", p, slices.Repeat(moves(0, 1), 100000), api.ErrPlan)
}

func TestMovesOfNothing(t *testing.T) {
	p := ladder(t)
	good := moves(0, 1, 0, 4, 1, 1)
	wrong := func(what string, f, at int) {
		t.Helper()
		m := api.Move{Func: f, At: at}
		checked(t, what, p, []api.Move{m}, api.ErrPlan)
		for i := range len(good) + 1 {
			checked(t, what+", among others", p, slices.Insert(slices.Clone(good), i, m), api.ErrPlan)
		}
	}
	for _, n := range append(slices.Clone(ends), 3, 4) {
		for _, at := range append(slices.Clone(ends), 0, 1, 2, 4) {
			wrong("no function", n, at)
		}
	}
	for _, at := range append(slices.Clone(ends), 7, 8) {
		wrong("no place", 0, at)
	}
	for _, at := range append(slices.Clone(ends), 3, 4) {
		wrong("no place", 1, at)
	}
	wrong("an Int", 0, 0)
	wrong("a Print", 0, 5)
	wrong("a Return", 0, 6)
	wrong("a New", 2, 0)
	wrong("behind the end", 2, 2)
}

// Each operation but a Call, with an N that is a function's number.
func TestNoCalls(t *testing.T) {
	p := of(t, fn(0, 0, 2, "v0 = int 1;v0 = v1;v0 = v1 + v1;v0 = v1 < v1;v0 = &v1;v0 = new 1;v0 = v1.1;v0.1 = v1;v0 = g1;g1 = v0;f1();print v0;if v0 jump 1;v0 = null;v0 = v1 == v1;return;jump 1"),
		fn(0, 0, 0, "return"))
	for at, x := range p.Funcs[0].Code {
		want := api.ErrPlan
		if x.Op == api.Call {
			want = api.OK
		}
		checked(t, "each operation", p, moves(0, at), want)
	}
	all(t, "each operation", p, moves(0, 10))
}

func TestCalleesWithAddr(t *testing.T) {
	p := of(t,
		fn(0, 0, 2, "v0 = &v1;f1();f2();f3();f4();return"),
		fn(0, 0, 1, "v0 = &v0;return"),
		fn(0, 0, 2, "return;v0 = &v1;jump 0"), // where no jump leads
		fn(0, 0, 1, "f1();f4();return"),       // it calls one that has an Addr
		fn(0, 0, 1, "v0 = new 1;return"))
	for _, c := range []struct {
		f, at int
		want  api.Errno
	}{{0, 1, api.ErrPlan}, {0, 2, api.ErrPlan}, {0, 3, api.OK}, {0, 4, api.OK}, {3, 0, api.ErrPlan}, {3, 1, api.OK}} {
		checked(t, "callees with an Addr", p, moves(c.f, c.at), c.want)
	}
	all(t, "callees with an Addr", p, moves(0, 3, 0, 4, 3, 1))
}

func TestRings(t *testing.T) {
	p := of(t,
		fn(0, 0, 0, "f0();f1();f2();f4();f6();return"),
		fn(0, 0, 0, "f1();f6();return"),                // itself
		fn(0, 0, 0, "f3();f6();return"),                // two: 2, 3
		fn(0, 0, 0, "f2();f4();return"),                //
		fn(0, 0, 0, "f5();f6();return"),                // three: 4, 5, 7, the last by a call that is not reached
		fn(0, 0, 0, "return;f4();f7();f1();return"),    //
		fn(0, 0, 0, "return"),                          // called by all
		fn(0, 0, 0, "f6();f1();return;f4();return"),    //
		fn(0, 0, 0, "f9();f8();f2();f7();f0();return"), // called by nobody but itself
		fn(0, 0, 0, "return"))
	open := moves(0, 1, 0, 2, 0, 3, 0, 4, 1, 1, 2, 1, 3, 1, 4, 1, 5, 3, 7, 0, 7, 1, 8, 0, 8, 2, 8, 3, 8, 4)
	all(t, "rings", p, open)
	for n, f := range p.Funcs {
		for at := range f.Code {
			want := api.ErrPlan
			if slices.Contains(open, api.Move{Func: n, At: at}) {
				want = api.OK
			}
			checked(t, "rings", p, moves(n, at), want)
		}
	}
}

// Without calls, or all in a ring: the empty plan alone.
func TestNoneButTheEmpty(t *testing.T) {
	for _, p := range []api.Program{
		of(t, fn(0, 0, 0, "return")),
		of(t, fn(0, 0, 1, "v0 = int 1;print v0;return"), fn(0, 0, 0, "return")),
		of(t, fn(0, 0, 0, "f0();f0();return")),
		of(t, fn(0, 0, 0, "f1();return"), fn(0, 0, 0, "f0();return")),
		of(t, fn(0, 0, 0, "f1();f2();f0();return"), fn(0, 0, 0, "f2();return"), fn(0, 0, 0, "f1();f0();return")),
		of(t, fn(0, 0, 0, "f3();return"), fn(0, 0, 0, "f0();return"), fn(0, 0, 0, "f1();return"), fn(0, 0, 0, "f2();return")),
	} {
		all(t, "the empty plan alone", p, nil)
		for n := -1; n <= len(p.Funcs); n++ {
			for at := -1; at <= 4; at++ {
				checked(t, "the empty plan alone", p, moves(n, at), api.ErrPlan)
			}
		}
	}
}

// A callee's own calls are no moves of the plan, and a move of them is no part of what a move brings.
func TestOldBodies(t *testing.T) {
	long := plainFunc(0, jumps(4000)...)
	middle := plainFunc(0, append(jumps(49), call(2), ret())...)
	top := plainFunc(0, append(jumps(98), call(1), ret())...)
	p := program(top, middle, long)
	checked(t, "old bodies", p, moves(0, 98, 1, 49), api.OK) // 150 and 4050; with a new body in it the first would be 4149
	made(t, "old bodies", p, math.MaxInt, 4050, moves(0, 98, 1, 49))
	made(t, "old bodies", p, math.MaxInt, 4049, moves(0, 98))
	made(t, "old bodies", p, math.MaxInt, 150, moves(0, 98))
	made(t, "old bodies", p, math.MaxInt, 149, nil)
	checked(t, "a place that is there only behind another move", p, moves(0, 98, 0, 147), api.ErrPlan)
}
