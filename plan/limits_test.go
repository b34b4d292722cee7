package plan_test

import (
	"math"
	"runtime/debug"
	"slices"
	"testing"

	"fugue/api"
	"fugue/code"
	"fugue/plan"
)

// fullOf: functions that call nobody, with so many variables in all; the last one has fewer than may be.
func fullOf(many int) []api.Func {
	var l []api.Func
	for ; many >= api.MaxVars; many -= api.MaxVars {
		l = append(l, plainFunc(api.MaxVars, ret()))
	}
	return append(l, plainFunc(many, ret()))
}

// Just as many variables as may be, and one more.
func TestVariables(t *testing.T) {
	for own := range api.MaxVars + 1 {
		p := program(plainFunc(own, call(1), ret()), plainFunc(api.MaxVars-own, ret()))
		checked(t, "255 variables", p, moves(0, 0), api.OK)
		all(t, "255 variables", p, moves(0, 0))
		if own == 0 { // a function of 256 variables is none
			continue
		}
		p.Funcs[1].Vars++
		checked(t, "256 variables", p, moves(0, 0), api.ErrPlan)
		all(t, "256 variables", p, nil)
	}
}

// Those of several moves together, and a call that is left out ahead of one that still fits.
func TestVariablesOfSeveral(t *testing.T) {
	p := program(
		plainFunc(200, call(1), call(2), call(3), call(4), call(4), call(3), ret()),
		plainFunc(56, ret()), plainFunc(54, ret()), plainFunc(0, ret()), plainFunc(1, ret()),
		plainFunc(255, call(4), call(3), ret()))
	all(t, "variables of several", p, moves(0, 1, 0, 2, 0, 3, 0, 5, 5, 1))
	checked(t, "254", p, moves(0, 1), api.OK)
	checked(t, "255", p, moves(0, 1, 0, 2, 0, 4, 0, 5), api.OK)
	checked(t, "256", p, moves(0, 1, 0, 2, 0, 3, 0, 4), api.ErrPlan)
	checked(t, "256 of one", p, moves(0, 0), api.ErrPlan)
	checked(t, "310", p, moves(0, 0, 0, 1), api.ErrPlan)
	checked(t, "256 of the last", p, moves(5, 0), api.ErrPlan)
	checked(t, "256 of the last, behind others", p, moves(0, 1, 0, 3, 5, 0, 5, 1), api.ErrPlan)
	checked(t, "255 of both", p, moves(0, 1, 0, 3, 5, 1), api.OK)
}

// Just as many instructions as may be, and one more: by what the function has, by what the callee has, by its variables, by its Returns.
func TestInstructionsAtTheLimit(t *testing.T) {
	for _, c := range []struct {
		what   string
		callee api.Func
		brings int
	}{
		{"a Return", plainFunc(0, ret()), 1},
		{"a long body", plainFunc(0, jumps(4000)...), 4000},
		{"as long as may be", plainFunc(0, jumps(api.MaxCode-1)...), api.MaxCode - 1},
		{"variables", plainFunc(200, ret()), 201},
		{"Returns", plainFunc(3, slices.Repeat([]api.Instr{ret()}, 1000)...), 1003},
		{"Returns of results", api.Func{Results: 4, Vars: 2, Code: slices.Repeat([]api.Instr{ret(0, 1, 0, 1)}, 800)}, 2 + 5*800},
	} {
		x := call(1)
		x.Rets = make([]int, c.callee.Results)
		own := append([]api.Instr{x}, jumps(api.MaxCode-c.brings)...)
		p := program(plainFunc(1, own...), c.callee)
		checked(t, c.what+": 4096 instructions", p, moves(0, 0), api.OK)
		all(t, c.what+": 4096 instructions", p, moves(0, 0))
		made(t, c.what+": 4096 instructions", p, api.MaxCode, api.MaxCode, moves(0, 0))
		made(t, c.what+": one too few", p, api.MaxCode, api.MaxCode-1, nil)
		if len(own) == api.MaxCode {
			continue
		}
		p.Funcs[0].Code = append(p.Funcs[0].Code, jumps(1)...)
		checked(t, c.what+": 4097 instructions", p, moves(0, 0), api.ErrPlan)
		all(t, c.what+": 4097 instructions", p, nil)
	}
}

// A callee of as many instructions as may be fits nowhere: behind the call there is always an instruction more. A variable counts as one too.
func TestLongestCallee(t *testing.T) {
	p := program(plainFunc(0, call(1), ret()), plainFunc(0, jumps(api.MaxCode)...))
	checked(t, "the longest callee", p, moves(0, 0), api.ErrPlan) // 4097
	all(t, "the longest callee", p, nil)
	p.Funcs[0].Code = append([]api.Instr{call(1)}, jumps(1)...)
	all(t, "the longest callee", p, nil)
	p.Funcs[1] = plainFunc(1, jumps(api.MaxCode-2)...)
	all(t, "two shorter, and a variable", p, moves(0, 0))
	p.Funcs[1] = plainFunc(2, jumps(api.MaxCode-2)...)
	all(t, "two shorter, and two variables", p, nil)
}

// As many calls as a function may have, each of which brings one instruction in its place.
func TestManyMoves(t *testing.T) {
	p := program(plainFunc(0, append(slices.Repeat([]api.Instr{call(1)}, api.MaxCode-1), ret())...), plainFunc(0, ret()))
	var every []api.Move
	for at := range api.MaxCode - 1 {
		every = append(every, api.Move{At: at})
	}
	all(t, "many moves", p, every)
	made(t, "many moves", p, 1, api.MaxCode-1, nil)
	checked(t, "many moves, and the Return", p, append(every, moves(0, api.MaxCode-1)...), api.ErrPlan)
}

// Just as many locations as may be, and one more.
func TestLocations(t *testing.T) {
	news := func(many int) []api.Instr {
		return append(slices.Repeat([]api.Instr{{Op: api.New, N: 1}}, many), ret())
	}
	brings := []api.Func{plainFunc(5, ret()), plainFunc(1, news(4)...), plainFunc(3, news(2)...)}
	for _, callee := range brings {
		for spare := range 17 {
			// f0 and f1 call f2 twice each: 5 locations a move
			p := program(plainFunc(1, call(2), call(2), ret()), plainFunc(1, call(2), call(2), ret()), callee)
			p.Funcs = append(p.Funcs, fullOf(api.MaxLocs-1-1-1-5-spare)...)
			if n := code.Locations(p); n != api.MaxLocs-spare {
				t.Fatalf("the test's program has %d locations", n)
			}
			every := moves(0, 0, 0, 1, 1, 0, 1, 1)
			for n := range len(every) + 1 {
				want := api.ErrPlan
				if 5*n <= spare {
					want = api.OK
				}
				checked(t, "many locations", p, every[:n], want)
				checked(t, "many locations", p, every[len(every)-n:], want)
			}
			all(t, "many locations", p, every[:spare/5])
		}
	}
}

// What is left out for want of locations, and a later call of another function that still fits.
func TestLocationsLeftOut(t *testing.T) {
	p := program(
		plainFunc(0, call(2), call(3), ret()),
		plainFunc(0, call(2), call(3), call(4), call(3), ret()),
		plainFunc(7, ret()), plainFunc(2, ret()), plainFunc(0, ret()))
	p.Funcs = append(p.Funcs, fullOf(api.MaxLocs-1-9-6)...) // 6 spare
	all(t, "locations left out", p, moves(0, 1, 1, 1, 1, 2, 1, 3))
	p.Funcs[len(p.Funcs)-1].Vars++ // 5 spare
	all(t, "locations left out", p, moves(0, 1, 1, 1, 1, 2))
	checked(t, "locations left out", p, moves(0, 1, 1, 1, 1, 3), api.ErrPlan)
	checked(t, "locations left out", p, moves(1, 1, 1, 3), api.OK)
	checked(t, "locations left out", p, moves(1, 0), api.ErrPlan)
	p.Funcs[len(p.Funcs)-1].Vars += 5 // none
	all(t, "no locations left", p, moves(1, 2))
}

// Chains and rings as long as there may be, callees ahead of callers and behind them, in a stack too small for a call each.
func TestLongOnes(t *testing.T) {
	defer debug.SetMaxStack(debug.SetMaxStack(1 << 20))
	const many = api.MaxFuncs
	for _, step := range []int{1, -1} {
		ring := api.Program{Funcs: make([]api.Func, many)}
		for n := range many {
			ring.Funcs[n] = plainFunc(1, call((n+step+many)%many), ret())
		}
		all(t, "a long ring", ring, nil)
		checked(t, "a long ring", ring, moves(many-1, 0), api.ErrPlan)
		chain := api.Program{Funcs: slices.Clone(ring.Funcs)}
		base := (many - 1) * (step + 1) / 2
		chain.Funcs[base] = plainFunc(1, ret())
		var every []api.Move
		for n := range many {
			if n != base {
				every = append(every, api.Move{Func: n})
			}
		}
		all(t, "a long chain", chain, every)
		checked(t, "a long chain", chain, every[30000:], api.OK)
		checked(t, "a long chain, and a move of none", chain, append(every, api.Move{Func: many}), api.ErrPlan)
		last := []api.Move{{Func: base - step}}
		made(t, "a long chain", chain, 2, 4, every)
		made(t, "a long chain", chain, 1, 4, last)
		made(t, "a long chain", chain, 2, 3, last)
		made(t, "a long chain", chain, 2, 2, nil)
	}
}

// Many more moves than calls.
func TestLongLists(t *testing.T) {
	p := ladder(t)
	for _, m := range []api.Move{{Func: 0, At: 1}, {Func: 1, At: 1}, {Func: math.MaxInt, At: math.MinInt}, {}} {
		checked(t, "a long list", p, slices.Repeat([]api.Move{m}, 1<<22), api.ErrPlan)
	}
	if l, e := plan.Make(p, math.MaxInt, math.MaxInt); e != api.OK || len(l) != 6 {
		t.Errorf("P16.2: %v, error %d", l, e)
	}
}
