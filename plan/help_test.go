package plan_test

import (
	"fmt"
	"math"
	"math/rand"
	"slices"
	"strings"
	"testing"

	"fugue/api"
	"fugue/plan"
	"fugue/text"
)

// ends: numbers that no function and no place of these tests' programs has.
var ends = []int{math.MinInt, math.MinInt + 1, -1 << 32, -1 << 16, -2, -1, 1 << 16, 1 << 20, 1 << 32, math.MaxInt - 1, math.MaxInt}

// fn: a function as text, its lines parted by semicolons.
func fn(params, results, vars int, lines string) string {
	return fmt.Sprintf("func params %d results %d vars %d\n", params, results, vars) + strings.ReplaceAll(lines, ";", "\n") + "\n"
}

// of: the program of these functions, with two globals.
func of(t *testing.T, funcs ...string) api.Program {
	t.Helper()
	lines := "globals 2\n" + strings.Join(funcs, "")
	p, e, line := text.Parse(lines)
	if e != api.OK {
		t.Fatalf("no program: error %d at line %d of\n%s", e, line, lines)
	}
	return p
}

// moves: of pairs of a function and a place.
func moves(n ...int) []api.Move {
	var l []api.Move
	for i := 0; i < len(n); i += 2 {
		l = append(l, api.Move{Func: n[i], At: n[i+1]})
	}
	return l
}

// brief: the beginning of a long list tells enough.
func brief(l []api.Move) string {
	if len(l) > 30 {
		return fmt.Sprintf("%v and %d more", l[:30], len(l)-30)
	}
	return fmt.Sprint(l)
}

func checked(t *testing.T, what string, p api.Program, ms []api.Move, want api.Errno) {
	t.Helper()
	if e := plan.Check(p, ms); e != want {
		t.Errorf("P16.1: %s: Check of %s: error %d, want %d", what, brief(ms), e, want)
	}
}

func made(t *testing.T, what string, p api.Program, callee, function int, want []api.Move) {
	t.Helper()
	if l, e := plan.Make(p, callee, function); e != api.OK || !slices.Equal(l, want) {
		t.Errorf("P16.2: %s: Make(%d, %d): %s, error %d, want %s", what, callee, function, brief(l), e, brief(want))
	}
	checked(t, what+", as it is made", p, want, api.OK)
}

// all: the plan without budgets.
func all(t *testing.T, what string, p api.Program, want []api.Move) {
	t.Helper()
	made(t, what, p, math.MaxInt, math.MaxInt, want)
}

func ret(args ...int) api.Instr { return api.Instr{Op: api.Return, Args: args} }

func call(n int) api.Instr { return api.Instr{Op: api.Call, N: n} }

// jumps: so many instructions that bring one each, and take a function to no end.
func jumps(many int) []api.Instr { return slices.Repeat([]api.Instr{{Op: api.Jump}}, many) }

// plainFunc: without parameters and results.
func plainFunc(vars int, code ...api.Instr) api.Func { return api.Func{Vars: vars, Code: code} }

func program(funcs ...api.Func) api.Program { return api.Program{Globals: 1, Funcs: funcs} }

// some: so many of the numbers below n.
func some(r *rand.Rand, many, n int) []int {
	var l []int
	for range many {
		l = append(l, r.Intn(n))
	}
	return l
}

// kind: what programs by chance are like.
type kind struct {
	funcs, code, vars int // at most
	addrs             int // one of so many functions may have some
}

// anyInstr: any operation, calls more often, as it may stand in a function of the program, whose heads are there.
func anyInstr(r *rand.Rand, p api.Program, f api.Func, length int, addr bool, callee func() int) api.Instr {
	v := func() int { return r.Intn(f.Vars) }
	op := 1 + r.Intn(24)
	if op == api.Addr && !addr {
		op = api.Copy
	}
	switch op {
	case api.Int, api.Null:
		return api.Instr{Op: op, R: v()}
	case api.Copy, api.Addr:
		return api.Instr{Op: op, R: v(), S: v()}
	case api.Add, api.Less, api.Same:
		return api.Instr{Op: op, R: v(), S: v(), T: v()}
	case api.New:
		return api.Instr{Op: op, R: v(), N: 1 + r.Intn(api.MaxFields)}
	case api.Load, api.Store:
		return api.Instr{Op: op, R: v(), S: v(), N: r.Intn(api.MaxFields)}
	case api.Get:
		return api.Instr{Op: op, R: v(), N: r.Intn(p.Globals)}
	case api.Set:
		return api.Instr{Op: op, S: v(), N: r.Intn(p.Globals)}
	case api.Print:
		return api.Instr{Op: op, S: v()}
	case api.Jump:
		return api.Instr{Op: op, N: r.Intn(length)}
	case api.If:
		return api.Instr{Op: op, S: v(), N: r.Intn(length)}
	case api.Return:
		return ret(some(r, f.Results, f.Vars)...)
	}
	n := callee()
	g := p.Funcs[n]
	return api.Instr{Op: api.Call, N: n, Args: some(r, g.Params, f.Vars), Rets: some(r, g.Results, f.Vars)}
}

// anyProgram: who calls whom: anybody; or those that come later in some order, so that rings are rare.
func anyProgram(r *rand.Rand, k kind) api.Program {
	p := api.Program{Globals: 1 + r.Intn(api.MaxGlobals)}
	n := 1 + r.Intn(k.funcs)
	for range n {
		vars := 1 + r.Intn(1+r.Intn(k.vars))
		p.Funcs = append(p.Funcs, api.Func{Params: r.Intn(min(vars, api.MaxParams) + 1), Results: r.Intn(api.MaxResults + 1), Vars: vars})
	}
	as, anybody := r.Perm(n), r.Intn(4) == 0
	for i, f := range p.Funcs {
		callee := func() int {
			if anybody {
				return r.Intn(n)
			}
			at := slices.Index(as, i)
			return as[at+r.Intn(n-at)]
		}
		length, addr := 1+r.Intn(1+r.Intn(k.code)), r.Intn(k.addrs) == 0
		if !anybody && r.Intn(8) > 0 { // no call of its own
			callee = func() int { return as[min(n-1, slices.Index(as, i)+1+r.Intn(3))] }
		}
		code := make([]api.Instr, 0, length)
		for range length - 1 {
			code = append(code, anyInstr(r, p, f, length, addr, callee))
		}
		p.Funcs[i].Code = append(code, ret(some(r, f.Results, f.Vars)...))
	}
	return p
}
