package incr_test

import (
	"math"
	"slices"
	"testing"

	"fugue/api"
	"fugue/code"
)

// differing: the numbers at which a program has other functions than another one, which has no more, and these functions.
func differing(p, q api.Program) ([]int, []api.Func) {
	var at []int
	var fs []api.Func
	for n, f := range q.Funcs {
		if n >= len(p.Funcs) || !alikeFunc(p.Funcs[n], f) {
			at, fs = append(at, n), append(fs, f)
		}
	}
	return at, fs
}

// A change to a wrong program is answered by the new program's error, and nothing has changed, whether the wrong function alone is handed in or all of them.
func TestChangesToWrongPrograms(t *testing.T) {
	s := begun(t, base(t))
	for i, c := range spoils {
		q := spoilt(t, c.spoil, c.want)
		at, fs := differing(base(t), q)
		if len(at) == 0 {
			t.Fatalf("the wrong program %d is the right one", i)
		}
		refuses(t, "a wrong program", s, at, fs, c.want)
		slices.Reverse(at)
		slices.Reverse(fs)
		refuses(t, "a wrong program, in another order", s, at, fs, c.want)
		at, fs = differing(api.Program{}, q)
		refuses(t, "a wrong program, all at once", s, at, fs, c.want)
	}
	stands(t, "behind all that", s, base(t))
	solves(t, "behind all that", s, []int{1}, base(t).Funcs[1:2], []int{1})
}

// Of several wrong functions the first violation in the order of the bytes counts: heads ahead of code, lower functions ahead of higher ones, in whatever order they are handed in.
func TestFirstViolation(t *testing.T) {
	s := begun(t, ones(t, "return v0", "return v0", "return v0"))
	head, variable, global := one(t, "return v0"), one(t, "return v0"), one(t, "g1 = v0;return v0")
	head.Vars = 0
	variable.Code[0].Args[0] = 3
	global.Code[0].N = 2
	for _, c := range []struct {
		at   []int
		fs   []api.Func
		want api.Errno
	}{
		{[]int{0, 1}, []api.Func{variable, global}, api.ErrVar},
		{[]int{1, 0}, []api.Func{variable, global}, api.ErrGlobal},
		{[]int{1, 0}, []api.Func{global, variable}, api.ErrVar},
		{[]int{0, 2}, []api.Func{variable, head}, api.ErrHead},
		{[]int{3, 0}, []api.Func{head, variable}, api.ErrHead},
		{[]int{4, 3}, []api.Func{variable, global}, api.ErrGlobal},
	} {
		if e := code.Check(changed(s.Program(), c.at, c.fs)); e != c.want {
			t.Fatalf("the test's program has the error %d, not %d", e, c.want)
		}
		refuses(t, "several violations", s, c.at, c.fs, c.want)
	}
}

// What was right may become wrong by another function: calls with the old heads, of functions that were taken for new ones.
func TestOthersBecomeWrong(t *testing.T) {
	s := begun(t, ones(t, "v1 = f1(v0);return v1", "return v0"))
	bare := api.Func{Vars: 1, Code: []api.Instr{ret()}}
	refuses(t, "a callee with another head", s, []int{1}, []api.Func{bare}, api.ErrArity)
	refuses(t, "a call of one that is not there", s, []int{0}, []api.Func{one(t, "v1 = f2(v0);return v1")}, api.ErrFunc)
	refuses(t, "a new one that calls one that is not there", s, []int{2}, []api.Func{one(t, "v1 = f3(v0);return v1")}, api.ErrFunc)
	caller := api.Func{Vars: 1, Code: []api.Instr{call(1, nil, nil), ret()}}
	refuses(t, "a caller of another head", s, []int{0}, []api.Func{caller}, api.ErrArity)
	solves(t, "a callee with another head and its caller", s, []int{1, 0}, []api.Func{bare, caller}, []int{1}, []int{0})
	refuses(t, "the callee as it was", s, []int{1}, []api.Func{one(t, "return v0")}, api.ErrArity)
	solves(t, "both as they were", s, []int{0, 1}, []api.Func{one(t, "v1 = f1(v0);return v1"), one(t, "return v0")}, []int{1}, []int{0})
}

// With an error nothing has changed of what the next change solves anew: not what a ring is, not which summary a function has, not how many functions there are.
func TestRefusedChangesLeaveNothing(t *testing.T) {
	s := begun(t, ones(t, "v1 = f1(v0);return v1", "v1 = f2(v0);return v1", "return v0", "return v0"))
	wrong := one(t, "return v0")
	wrong.Code[0].Args[0] = math.MaxInt
	ring, other := one(t, "v1 = f1(v0);return v0"), one(t, "g0 = v0;return v0")
	refuses(t, "a ring, and a wrong one", s, []int{2, 3}, []api.Func{ring, wrong}, api.ErrVar)
	becomes(t, "behind a ring", s, 1, "v1 = f2(v0);return v1", []int{1})
	refuses(t, "another summary, and a wrong one", s, []int{3, 2}, []api.Func{wrong, other}, api.ErrVar)
	becomes(t, "behind another summary", s, 2, "return v0", []int{2})
	becomes(t, "another summary", s, 2, "g0 = v0;return v0", []int{2}, []int{1}, []int{0})
	refuses(t, "a new function, and a wrong one", s, []int{4, 5}, []api.Func{other, wrong}, api.ErrVar)
	refuses(t, "a function too far behind it", s, []int{5}, []api.Func{other}, api.ErrArg)
	solves(t, "a new function behind it", s, []int{4}, []api.Func{other}, []int{4})
	refuses(t, "other numbers", s, []int{2, 2}, []api.Func{ring, ring}, api.ErrArg)
	solves(t, "no function behind all that", s, nil, nil)
}
