package inline_test

import (
	"runtime/debug"
	"slices"
	"testing"

	"fugue/api"
	"fugue/code"
)

// fullOf: functions that call nobody, with so many variables in all; the last one has fewer than may be.
func fullOf(many int) []api.Func {
	var l []api.Func
	for ; many >= api.MaxVars; many -= api.MaxVars {
		l = append(l, plainFunc(api.MaxVars, ret()))
	}
	return append(l, plainFunc(many, ret()))
}

// Just as many variables as may be, and one more.
func TestVariables(t *testing.T) {
	for own := range api.MaxVars + 1 {
		p := program(plainFunc(own, call(1), ret()), plainFunc(api.MaxVars-own, ret()))
		if q := applied(t, "255 variables", p, moves(0, 0)); q.Funcs[0].Vars != api.MaxVars || len(q.Funcs[0].Code) != api.MaxVars-own+2 {
			t.Errorf("P17.2: 255 variables, %d of them its own: %d variables, %d instructions", own, q.Funcs[0].Vars, len(q.Funcs[0].Code))
		}
		if own == 0 { // a function of 256 variables is none
			continue
		}
		p.Funcs[1].Vars++
		refused(t, "256 variables", p, moves(0, 0), api.ErrPlan)
	}
}

// Those of several moves: the last has the greatest number that a variable may have.
func TestVariablesOfSeveral(t *testing.T) {
	p := program(plainFunc(5, append(slices.Repeat([]api.Instr{call(1)}, 51), ret())...), plainFunc(5, api.Instr{Op: api.Print, S: 4}, ret()))
	l := every(t, p)
	q := applied(t, "many moves", p, l[:50])
	if x := q.Funcs[0].Code[49*7+5]; len(l) != 50 || q.Funcs[0].Vars != 255 || x.Op != api.Print || x.S != 254 {
		t.Errorf("P17.2: %d moves: %d variables, the last Print: %+v", len(l), q.Funcs[0].Vars, x)
	}
	refused(t, "one move more", p, append(l, api.Move{At: 50}), api.ErrPlan)
}

// Just as many instructions as may be, and one more: by what the function has, by the callee's own, its variables, its Returns.
func TestInstructions(t *testing.T) {
	for _, c := range []struct {
		what   string
		callee api.Func
		brings int
	}{
		{"a Return", plainFunc(0, ret()), 1},
		{"a long body", plainFunc(0, jumps(4000)...), 4000},
		{"as long as may be", plainFunc(0, jumps(api.MaxCode-1)...), api.MaxCode - 1},
		{"variables", plainFunc(200, ret()), 201},
		{"Returns", plainFunc(3, slices.Repeat([]api.Instr{ret()}, 1000)...), 1003},
		{"Returns of results", api.Func{Results: 4, Vars: 2, Code: slices.Repeat([]api.Instr{ret(0, 1, 0, 1)}, 800)}, 2 + 5*800},
	} {
		x := call(1)
		x.Rets = make([]int, c.callee.Results)
		own := append([]api.Instr{x}, jumps(api.MaxCode-c.brings)...)
		own[len(own)-1].N = len(own) - 1 // to itself: to the last place of all
		p := program(plainFunc(1, own...), c.callee)
		q := applied(t, c.what+": 4096 instructions", p, moves(0, 0))
		if l := q.Funcs[0].Code; len(l) != api.MaxCode || l[len(l)-1].N != api.MaxCode-1 {
			t.Errorf("P17.2: %s: %d instructions, the last a jump to %d", c.what, len(l), l[len(l)-1].N)
		}
		if len(own) < api.MaxCode {
			p.Funcs[0].Code = append(own, jumps(1)...)
			refused(t, c.what+": 4097 instructions", p, moves(0, 0), api.ErrPlan)
		}
	}
}

// As many moves as a function may have, each of one instruction in the place of its Call.
func TestManyMoves(t *testing.T) {
	p := program(plainFunc(0, append(slices.Repeat([]api.Instr{call(1)}, api.MaxCode-1), ret())...), plainFunc(0, ret()))
	l := every(t, p)
	q := applied(t, "many moves", p, l)
	if len(l) != api.MaxCode-1 || len(q.Funcs[0].Code) != api.MaxCode {
		t.Fatalf("P17.2: %d moves, %d instructions", len(l), len(q.Funcs[0].Code))
	}
	for at, x := range q.Funcs[0].Code[:api.MaxCode-1] {
		if !same(x, api.Instr{Op: api.Jump, N: at + 1}) {
			t.Fatalf("P17.2: at %d: %+v", at, x)
		}
	}
}

// Just as many locations as may be, and one more.
func TestLocations(t *testing.T) {
	p := program(plainFunc(1, call(2), call(2), ret()), plainFunc(1, call(2), ret()), plainFunc(2, api.Instr{Op: api.New, N: 1}, api.Instr{Op: api.New, R: 1, N: 8}, ret()))
	p.Funcs = append(p.Funcs, fullOf(api.MaxLocs-1-1-1-4-12)...)
	all := moves(0, 0, 0, 1, 1, 0) // 4 locations each
	if n := code.Locations(applied(t, "as many locations as may be", p, all)); n != api.MaxLocs {
		t.Errorf("P17.2: %d locations", n)
	}
	p.Funcs[len(p.Funcs)-1].Vars++
	refused(t, "a location more", p, all, api.ErrPlan)
	if n := code.Locations(applied(t, "fewer moves", p, all[1:])); n != api.MaxLocs-3 {
		t.Errorf("P17.2: %d locations", n)
	}
}

// Chains and rings as long as there may be, callees ahead of callers and behind them, in a stack too small for a call each.
func TestLongOnes(t *testing.T) {
	defer debug.SetMaxStack(debug.SetMaxStack(1 << 20))
	const many = api.MaxFuncs
	for _, step := range []int{1, -1} {
		ring := api.Program{Funcs: make([]api.Func, many)}
		for n := range many {
			ring.Funcs[n] = plainFunc(1, call((n+step+many)%many), ret())
		}
		refused(t, "a long ring", ring, moves(many-1, 0), api.ErrPlan)
		if q := applied(t, "a long ring", ring, nil); len(q.Funcs) != many || !same(q.Funcs[many/2].Code[0], ring.Funcs[many/2].Code[0]) {
			t.Error("P17.1: a long ring is not as it was")
		}
		chain := api.Program{Funcs: slices.Clone(ring.Funcs)}
		base := (many - 1) * (step + 1) / 2
		chain.Funcs[base] = plainFunc(1, ret())
		q := applied(t, "a long chain", chain, every(t, chain))
		for n, f := range q.Funcs {
			want := []api.Instr{{Op: api.Null, R: 1}, {Op: api.Call, N: n + 2*step}, {Op: api.Jump, N: 3}, ret()}
			switch n {
			case base:
				want = []api.Instr{ret()}
			case base - step:
				want = []api.Instr{{Op: api.Null, R: 1}, {Op: api.Jump, N: 2}, ret()}
			}
			if !slices.EqualFunc(f.Code, want, same) {
				t.Fatalf("P17.2: a long chain: function %d has the code %+v, want %+v", n, f.Code, want)
			}
		}
		refused(t, "a long chain, and a move of none", chain, append(every(t, chain), api.Move{Func: many}), api.ErrPlan)
	}
}

// Many more moves than calls.
func TestLongLists(t *testing.T) {
	p := ladder(t)
	for _, m := range []api.Move{{Func: 0, At: 1}, {Func: 1, At: 1}, {}} {
		refused(t, "a long list", p, slices.Repeat([]api.Move{m}, 1<<20), api.ErrPlan)
	}
}
