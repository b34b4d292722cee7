package inline_test

import (
	"fmt"
	"math"
	"math/rand"
	"slices"
	"strings"
	"testing"

	"fugue/api"
	"fugue/code"
	"fugue/inline"
	"fugue/plan"
	"fugue/text"
)

// ends: numbers that no function and no place of these tests' programs has.
var ends = []int{math.MinInt, math.MinInt + 1, -1 << 32, -1 << 16, -2, -1, 1 << 16, 1 << 20, 1 << 32, math.MaxInt - 1, math.MaxInt}

// fn: a function as text, its lines parted by semicolons.
func fn(params, results, vars int, lines string) string {
	return fmt.Sprintf("func params %d results %d vars %d\n", params, results, vars) + strings.ReplaceAll(lines, ";", "\n") + "\n"
}

// of: the program of these functions, with two globals.
func of(t *testing.T, funcs ...string) api.Program {
	t.Helper()
	lines := "globals 2\n" + strings.Join(funcs, "")
	p, e, line := text.Parse(lines)
	if e != api.OK {
		t.Fatalf("no program: error %d at line %d of\n%s", e, line, lines)
	}
	return p
}

// moves: of pairs of a function and a place.
func moves(n ...int) []api.Move {
	var l []api.Move
	for i := 0; i < len(n); i += 2 {
		l = append(l, api.Move{Func: n[i], At: n[i+1]})
	}
	return l
}

// brief: the beginning of a long list tells enough.
func brief(l []api.Move) string {
	if len(l) > 30 {
		return fmt.Sprintf("%v and %d more", l[:30], len(l)-30)
	}
	return fmt.Sprint(l)
}

// short: the beginning of a long text.
func short(s string) string {
	if len(s) > 3000 {
		return s[:3000] + ".."
	}
	return s
}

// told: a right program's text.
func told(t *testing.T, p api.Program) string {
	t.Helper()
	s, e := text.Print(p)
	if e != api.OK {
		t.Fatalf("no right program: error %d", e)
	}
	return s
}

// applied: what follows from a plan that must pass; it is right.
func applied(t *testing.T, what string, p api.Program, ms []api.Move) api.Program {
	t.Helper()
	q, e := inline.Apply(p, ms...)
	if e != api.OK {
		t.Fatalf("P17.1: %s: Apply of %s: error %d", what, brief(ms), e)
	}
	if e := code.Check(q); e != api.OK {
		t.Fatalf("P17.1: %s: Apply of %s: the program that follows is not right: error %d", what, brief(ms), e)
	}
	return q
}

func refused(t *testing.T, what string, p api.Program, ms []api.Move, want api.Errno) {
	t.Helper()
	if q, e := inline.Apply(p, ms...); e != want || q.Globals != 0 || len(q.Funcs) > 0 {
		t.Errorf("P17.1: %s: Apply of %s: error %d, %d globals, %d functions, want the error %d alone", what, brief(ms), e, q.Globals, len(q.Funcs), want)
	}
}

// becomes: the first functions of what follows are these, the others as they were.
func becomes(t *testing.T, what string, p api.Program, ms []api.Move, funcs ...string) api.Program {
	t.Helper()
	q := applied(t, what, p, ms)
	want := "globals 2\n" + strings.Join(funcs, "")
	for _, f := range p.Funcs[len(funcs):] {
		lines := make([]string, len(f.Code))
		for at, x := range f.Code {
			lines[at] = text.Instr(x)
		}
		want += fn(f.Params, f.Results, f.Vars, strings.Join(lines, ";"))
	}
	w, e, line := text.Parse(want)
	if e != api.OK {
		t.Fatalf("%s: the test wants no program: error %d at line %d of\n%s", what, e, line, want)
	}
	if got, want := told(t, q), told(t, w); got != want {
		t.Errorf("P17.2: %s: %s:\n%s\nwant\n%s", what, brief(ms), short(got), short(want))
	}
	return q
}

// made: the plan with these budgets.
func made(t *testing.T, p api.Program, callee, function int) []api.Move {
	t.Helper()
	l, e := plan.Make(p, callee, function)
	if e != api.OK {
		t.Fatalf("no plan: error %d", e)
	}
	return l
}

// every: the plan without budgets.
func every(t *testing.T, p api.Program) []api.Move {
	t.Helper()
	return made(t, p, math.MaxInt, math.MaxInt)
}

func ret(args ...int) api.Instr { return api.Instr{Op: api.Return, Args: args} }

func call(n int) api.Instr { return api.Instr{Op: api.Call, N: n} }

// jumps: so many instructions that bring one each, and take a function to no end.
func jumps(many int) []api.Instr { return slices.Repeat([]api.Instr{{Op: api.Jump}}, many) }

// plainFunc: without parameters and results.
func plainFunc(vars int, code ...api.Instr) api.Func { return api.Func{Vars: vars, Code: code} }

func program(funcs ...api.Func) api.Program { return api.Program{Globals: 1, Funcs: funcs} }

// some: so many of the numbers below n.
func some(r *rand.Rand, many, n int) []int {
	var l []int
	for range many {
		l = append(l, r.Intn(n))
	}
	return l
}

// part: some of the moves.
func part(r *rand.Rand, l []api.Move) []api.Move {
	out := r.Intn(4)
	return slices.DeleteFunc(slices.Clone(l), func(api.Move) bool { return r.Intn(4) < out })
}

// same: instructions with the same numbers.
func same(a, b api.Instr) bool {
	return a.Op == b.Op && a.R == b.R && a.S == b.S && a.T == b.T && a.N == b.N && slices.Equal(a.Args, b.Args) && slices.Equal(a.Rets, b.Rets)
}
