package crew_test

import (
	"runtime/debug"
	"slices"
	"testing"

	"fugue/api"
	"fugue/crew"
)

// long: so many functions, each of which hands its parameter on by that step; the one at the base lays it into a global, and in a chain calls nobody.
func long(many, step, base int, ring bool) api.Program {
	p := api.Program{Globals: 1, Funcs: make([]api.Func, many)}
	for n := range many {
		code := []api.Instr{call((n+step+many)%many, []int{0}, []int{1}), ret(1)}
		if n == base {
			code = append(code[:1:1], api.Instr{Op: api.Set}, ret(1))
			if !ring {
				code = code[1:]
			}
		}
		p.Funcs[n] = api.Func{Params: 1, Results: 1, Vars: 2, Code: code}
	}
	return p
}

func allHandOn(t *testing.T, what string, many int, l []api.Summary, e api.Errno) {
	t.Helper()
	if e != api.OK || len(l) != many {
		t.Fatalf("%s: %d summaries, error %d", what, len(l), e)
	}
	for f, s := range l {
		if !alikeSum(s, one(0, none)) {
			t.Fatalf("%s: the function %d: %v", what, f, s)
		}
	}
}

// Chains and rings as long as there may be, callees ahead of callers and behind them, in a stack too small for a call each.
func TestLongOnes(t *testing.T) {
	defer debug.SetMaxStack(debug.SetMaxStack(1 << 20))
	const many = api.MaxFuncs
	for i, p := range []api.Program{long(many, 1, many-1, false), long(many, -1, 0, false), long(many, -1, 30000, true), long(many, 1, many-1, true)} {
		for _, workers := range []int{1, 64} {
			l, e := crew.Free(p, workers)
			allHandOn(t, "P14.2: a long one", many, l, e)
		}
		for _, workers := range []int{1, 3} {
			if i == 3 { // too many rounds to be told
				continue
			}
			l, h, e := crew.Scripted(p, workers)
			allHandOn(t, "P14.1: a long one", many, l, e)
			if h[len(h)-1].Kind != api.Exit || len(h) > workers*crew.Bound(p, workers) {
				t.Fatalf("W5: a long one: %d events", len(h))
			}
		}
	}
}

// A ring in which each round mends one function alone: all rounds are told.
func TestManyRounds(t *testing.T) {
	const many = 400
	p := long(many, 1, many-1, true)
	l, h, e := crew.Scripted(p, 2, edges...)
	allHandOn(t, "P14.1: many rounds", many, l, e)
	passes := slices.DeleteFunc(h, func(e api.Event) bool { return e.Kind != api.Pass })
	if len(passes) != many*(many+1) {
		t.Fatalf("P14.1: many rounds: %d Passes, want %d", len(passes), many*(many+1))
	}
	for i, x := range passes {
		round, f := i/many, i%many
		if x.Other != f || x.Changed != (f == many-1-round) {
			t.Fatalf("P14.1: many rounds: round %d: %s", round, tell(passes[i:i+1]))
		}
	}
}

// Many that call into one long ring, each at another place: each reads what it needs.
func TestManyCallersOfALongRing(t *testing.T) {
	const ring, many = 20000, 40000
	p := long(ring, -1, 7, true)
	for n := range many {
		p.Funcs = append(p.Funcs, api.Func{Params: 1, Results: 1, Vars: 2, Code: []api.Instr{call(n%ring, []int{0}, []int{1}), call(n%ring, []int{0}, []int{1}), ret(1)}})
	}
	l, e := crew.Free(p, 8)
	allHandOn(t, "P14.2: many callers", ring+many, l, e)
	l, h, e := crew.Scripted(p, 2)
	allHandOn(t, "P14.1: many callers", ring+many, l, e)
	lowers := slices.DeleteFunc(h, func(e api.Event) bool { return e.Kind != api.Lower })
	for i, x := range lowers {
		if x != (api.Event{Worker: lowers[0].Worker, Kind: api.Lower, Other: 1 + i, Changed: true}) {
			t.Fatalf("P14.1: many callers: the Lower %d: %s", i, tell(lowers[i:i+1]))
		}
	}
	if len(lowers) != many {
		t.Errorf("P14.1: many callers: %d Lowers", len(lowers))
	}
}

// One that calls as many others as its code has room for.
func TestManyCallees(t *testing.T) {
	const many = api.MaxCode - 1
	p := api.Program{Globals: 1, Funcs: []api.Func{{Params: 1, Results: 1, Vars: 2}}}
	for n := range many {
		p.Funcs[0].Code = append(p.Funcs[0].Code, call(many-n, []int{0}, []int{1}))
		p.Funcs = append(p.Funcs, api.Func{Params: 1, Results: 1, Vars: 1, Code: []api.Instr{{Op: api.Set}, ret(0)}})
	}
	p.Funcs[0].Code = append(p.Funcs[0].Code, ret(1))
	for _, workers := range []int{1, 64} {
		l, h, e := crew.Scripted(p, workers, edges...)
		if e != api.OK || !alikeSum(l[0], one(0, 0)) {
			t.Fatalf("P14.1: many callees: %v, error %d", l[0], e)
		}
		looks := slices.DeleteFunc(slices.Clone(h), func(e api.Event) bool { return e.Kind != api.Look })
		if len(looks) != many {
			t.Fatalf("P14.1: many callees: %d Looks", len(looks))
		}
		for i, x := range looks {
			if x.Other != i || !x.Changed {
				t.Fatalf("P14.1: many callees: the Look %d: %s", i, tell(looks[i:i+1]))
			}
		}
		n := many
		for _, x := range h {
			if x.Kind != api.Lower {
				continue
			}
			if n--; x.N != n || x.Changed != (n == 0) || x.Other != many {
				t.Fatalf("P14.1: many callees: %s, want N %d", tell([]api.Event{x}), n)
			}
		}
	}
	l, e := crew.Free(p, 64)
	if e != api.OK || !alikeSum(l[0], one(0, 0)) {
		t.Fatalf("P14.2: many callees: %v, error %d", l[0], e)
	}
}

// As many workers as may be, in a long chain: each task goes from hand to hand.
func TestManyWorkersOfAChain(t *testing.T) {
	const many = 2000
	p := long(many, 1, many-1, false)
	l, h, e := crew.Scripted(p, 64)
	allHandOn(t, "P14.1: many workers", many, l, e)
	if last := h[len(h)-1]; last.Kind != api.Exit || len(places(h, api.Exit, -1)) != 64 || len(places(h, api.Finish, -1)) != many {
		t.Fatalf("W5: many workers: %d events, the last %v", len(h), last)
	}
}
