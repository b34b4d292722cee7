package incr_test

import (
	"runtime/debug"
	"slices"
	"testing"

	"fugue/api"
)

// hand: a function that hands its parameter on to another and gives back what it gets.
func hand(callee int) api.Func {
	return api.Func{Params: 1, Results: 1, Vars: 2, Code: []api.Instr{call(callee, []int{0}, []int{1}), ret(1)}}
}

// keep: one that gives back what it is given.
func keep() api.Func { return api.Func{Params: 1, Results: 1, Vars: 2, Code: []api.Instr{ret(0)}} }

// lay: one that lays it into a global besides, and may hand it on.
func lay(more ...api.Instr) api.Func {
	return api.Func{Params: 1, Results: 1, Vars: 2, Code: append(slices.Clone(more), api.Instr{Op: api.Set}, ret(0))}
}

// chain: as many functions as there may be, each of which hands on to the one that many numbers on; the one at the base keeps what it is given.
func chain(step, base int) api.Program {
	p := api.Program{Globals: 1, Funcs: make([]api.Func, api.MaxFuncs)}
	for n := range p.Funcs {
		p.Funcs[n] = hand((n + step + api.MaxFuncs) % api.MaxFuncs)
	}
	p.Funcs[base] = keep()
	return p
}

// upwards: the components of a chain from its base on, up to so many.
func upwards(step, base, many int) [][]int {
	var l [][]int
	for n := range many {
		l = append(l, []int{(base - n*step + api.MaxFuncs) % api.MaxFuncs})
	}
	return l
}

// all: a component of all functions.
func all() []int {
	var l []int
	for n := range api.MaxFuncs {
		l = append(l, n)
	}
	return l
}

// Chains as long as there may be, callees behind their callers and ahead of them, that become rings and chains again, in a stack too small for a call each.
func TestLongOnes(t *testing.T) {
	defer debug.SetMaxStack(debug.SetMaxStack(1 << 20))
	const last, middle = api.MaxFuncs - 1, 40000
	for _, c := range []struct{ step, base int }{{1, last}, {-1, 0}} {
		s := begun(t, chain(c.step, c.base))
		change := func(what string, at int, f api.Func, want ...[]int) {
			t.Helper()
			solves(t, what, s, []int{at}, []api.Func{f}, want...)
		}
		change("the base again", c.base, keep(), []int{c.base})
		change("the base with another summary", c.base, lay(), upwards(c.step, c.base, api.MaxFuncs)...)
		change("the middle too, by itself", middle, lay(call(middle+c.step, []int{0}, []int{1})), []int{middle})
		change("the base, as far as the middle", c.base, keep(), upwards(c.step, c.base, api.MaxFuncs-above(c.step, middle))...)
		change("the middle hands on again", middle, hand(middle+c.step), upwards(c.step, middle, 1+above(c.step, middle))...)
		top := (c.base + c.step + api.MaxFuncs) % api.MaxFuncs
		change("a ring", c.base, lay(call(top, []int{0}, []int{1})), all())
		change("the ring again", c.base, lay(call(top, []int{0}, []int{1})), all())
		change("a chain again", c.base, lay(), upwards(c.step, c.base, api.MaxFuncs)...)
	}
}

// above: how many functions of a chain hand on to this one, by way of others.
func above(step, at int) int {
	if step > 0 {
		return at
	}
	return api.MaxFuncs - 1 - at
}

// All of as many functions as there may be at once, from the upper end; and one that all call.
func TestMany(t *testing.T) {
	s := begun(t, api.Program{Globals: 1, Funcs: slices.Repeat([]api.Func{keep()}, api.MaxFuncs)})
	at, fs := all(), make([]api.Func, api.MaxFuncs)
	slices.Reverse(at)
	for i := range at {
		fs[i] = hand(7)
	}
	fs[api.MaxFuncs-1-7] = keep()
	var want [][]int
	for n := range api.MaxFuncs {
		if n != 7 {
			want = append(want, []int{n})
		}
	}
	want = append([][]int{{7}}, want...)
	solves(t, "all at once", s, at, fs, want...)
	solves(t, "one that all call", s, []int{7}, []api.Func{lay()}, want...)
	solves(t, "one that all call, as it was", s, []int{7}, []api.Func{lay()}, []int{7})
	refuses(t, "one too many", s, []int{api.MaxFuncs}, []api.Func{keep()}, api.ErrHead)
	solves(t, "behind one too many", s, []int{api.MaxFuncs - 1}, []api.Func{keep()}, []int{api.MaxFuncs - 1})
}

// From one function to as many as there may be, and no further.
func TestAsManyAsMayBe(t *testing.T) {
	s := begun(t, api.Program{Funcs: []api.Func{keep()}})
	at := all()[1:]
	refuses(t, "two too many", s, append(slices.Clone(at), 65535, 65536), slices.Repeat([]api.Func{keep()}, api.MaxFuncs+1), api.ErrHead)
	refuses(t, "one too many", s, append(slices.Clone(at), 65535), slices.Repeat([]api.Func{keep()}, api.MaxFuncs), api.ErrHead)
	var want [][]int
	for _, n := range at {
		want = append(want, []int{n})
	}
	slices.Reverse(at)
	solves(t, "as many as may be", s, at, slices.Repeat([]api.Func{keep()}, api.MaxFuncs-1), want...)
	refuses(t, "one more", s, []int{api.MaxFuncs}, []api.Func{keep()}, api.ErrHead)
}

// At MaxLocs all is well; with a variable or a New more the change is refused, and nothing has changed.
func TestMaxLocs(t *testing.T) {
	s := begun(t, api.Program{Funcs: many(api.MaxLocs - 3)}) // two are left
	last := len(s.Program().Funcs) - 1
	vars := s.Program().Funcs[last].Vars
	sized := func(vars, news int) api.Func {
		return api.Func{Vars: vars, Code: append(slices.Repeat([]api.Instr{{Op: api.New, N: 1}}, news), ret())}
	}
	next := []int{last + 1}
	refuses(t, "three variables", s, next, []api.Func{sized(3, 0)}, api.ErrTooLarge)
	refuses(t, "two variables and a New", s, next, []api.Func{sized(2, 1)}, api.ErrTooLarge)
	refuses(t, "a variable and two News", s, next, []api.Func{sized(1, 2)}, api.ErrTooLarge)
	refuses(t, "three more of the last one", s, []int{last}, []api.Func{sized(vars+1, 2)}, api.ErrTooLarge)
	solves(t, "a variable and a New", s, next, []api.Func{sized(1, 1)}, next)
	refuses(t, "a New more", s, next, []api.Func{sized(1, 2)}, api.ErrTooLarge)
	solves(t, "two variables in their place", s, next, []api.Func{sized(2, 0)}, next)
	refuses(t, "a function with a variable", s, []int{last + 2}, []api.Func{sized(1, 0)}, api.ErrTooLarge)
	solves(t, "a function without one", s, []int{last + 2}, []api.Func{sized(0, 0)}, []int{last + 2})
	solves(t, "less of one, more of another", s, []int{last, last + 1}, []api.Func{sized(vars-1, 0), sized(2, 1)}, []int{last}, []int{last + 1})
	refuses(t, "the one as it was", s, []int{last}, []api.Func{sized(vars, 0)}, api.ErrTooLarge)
}

// A function with as many parameters, results, variables and instructions as may be: each of its summary's numbers counts.
func TestLongCode(t *testing.T) {
	head := api.Func{Params: api.MaxParams, Results: api.MaxResults, Vars: api.MaxVars}
	args, rets := []int{0, 1, 2, 3, 4, 5, 6, 7}, []int{8, 9, 10, 11}
	caller, callee := head, head
	caller.Code = []api.Instr{call(1, args, rets), ret(8, 9, 10, 11)}
	callee.Code = []api.Instr{ret(8, 9, 10, 11)}
	s := begun(t, api.Program{Globals: 1, Funcs: []api.Func{caller, callee, caller}})
	for from := range api.MaxParams {
		for to := range api.MaxResults + 1 {
			f := head
			if to == 0 {
				f.Code = []api.Instr{{Op: api.Set, S: from}, ret(8, 9, 10, 11)}
			} else {
				f.Code = []api.Instr{{Op: api.Copy, R: 7 + to, S: from}, ret(8, 9, 10, 11)}
			}
			solves(t, "one of the numbers", s, []int{1}, []api.Func{f}, []int{1}, []int{0}, []int{2})
			solves(t, "the same again", s, []int{1}, []api.Func{f}, []int{1})
		}
	}
	long := head
	long.Code = append(slices.Repeat([]api.Instr{{Op: api.New, R: 8, N: 8}}, api.MaxCode-1), ret(8, 9, 10, 11))
	solves(t, "as much code as may be", s, []int{1}, []api.Func{long}, []int{1}, []int{0}, []int{2})
	long.Code = append(long.Code, ret(8, 9, 10, 11))
	refuses(t, "one instruction more", s, []int{1}, []api.Func{long}, api.ErrHead)
}
