package incr_test

import (
	"fmt"
	"slices"
	"strings"
	"testing"

	"fugue/api"
	"fugue/code"
	"fugue/incr"
	"fugue/text"
	"fugue/whole"
)

// fn: a function as text, its lines parted by semicolons.
func fn(params, results, vars int, lines string) string {
	return fmt.Sprintf("func params %d results %d vars %d\n", params, results, vars) + strings.ReplaceAll(lines, ";", "\n") + "\n"
}

// of: the program of these functions, with two globals.
func of(t *testing.T, funcs ...string) api.Program {
	t.Helper()
	lines := "globals 2\n" + strings.Join(funcs, "")
	p, e, line := text.Parse(lines)
	if e != api.OK {
		t.Fatalf("no program: error %d at line %d of\n%s", e, line, lines)
	}
	return p
}

// one: a function with one parameter and one result, three variables, and such lines; it may call any of twelve that are like it.
func one(t *testing.T, lines string) api.Func {
	t.Helper()
	return of(t, append([]string{fn(1, 1, 3, lines)}, slices.Repeat([]string{fn(1, 1, 1, "return v0")}, 11)...)...).Funcs[0]
}

// ones: a program of such functions.
func ones(t *testing.T, lines ...string) api.Program {
	t.Helper()
	p := api.Program{Globals: 2}
	for _, l := range lines {
		p.Funcs = append(p.Funcs, one(t, l))
	}
	if e := code.Check(p); e != api.OK {
		t.Fatalf("no program: error %d", e)
	}
	return p
}

// cut: the beginning of what is long tells enough.
func cut(s string) string {
	if len(s) > 2000 {
		return s[:2000] + ".."
	}
	return s
}

func brief(x any) string { return cut(fmt.Sprintf("%+v", x)) }

// told: a right program's text.
func told(p api.Program) string {
	s, _ := text.Print(p)
	return cut(s)
}

func alikeInstr(a, b api.Instr) bool {
	return a.Op == b.Op && a.R == b.R && a.S == b.S && a.T == b.T && a.N == b.N && slices.Equal(a.Args, b.Args) && slices.Equal(a.Rets, b.Rets)
}

func alikeFunc(a, b api.Func) bool {
	return a.Params == b.Params && a.Results == b.Results && a.Vars == b.Vars && slices.EqualFunc(a.Code, b.Code, alikeInstr)
}

func alikeProgram(a, b api.Program) bool {
	return a.Globals == b.Globals && slices.EqualFunc(a.Funcs, b.Funcs, alikeFunc)
}

func alikeSum(a, b api.Summary) bool {
	return slices.Equal(a.Heap, b.Heap) && slices.EqualFunc(a.Result, b.Result, slices.Equal)
}

func alikeResult(a, b api.Result) bool {
	return slices.EqualFunc(a.Sums, b.Sums, alikeSum) && slices.EqualFunc(a.Vars, b.Vars, slices.Equal) && slices.EqualFunc(a.Code, b.Code, slices.Equal)
}

func alikeLists(a, b [][]int) bool { return slices.EqualFunc(a, b, slices.Equal) }

func solved(t *testing.T, p api.Program) api.Result {
	t.Helper()
	r, e := whole.Solve(p)
	if e != api.OK {
		t.Fatalf("no right program: error %d", e)
	}
	return r
}

func begun(t *testing.T, p api.Program) *incr.Session {
	t.Helper()
	s, e := incr.New(p)
	if s == nil || e != api.OK {
		t.Fatalf("P20.1: New: error %d of\n%s", e, told(p))
	}
	stands(t, "New", s, p)
	return s
}

// stands: the session has this program, and its least solution's result.
func stands(t *testing.T, what string, s *incr.Session, p api.Program) {
	t.Helper()
	if got := s.Program(); !alikeProgram(got, p) {
		t.Fatalf("P20.4: %s: Program: %s, want %s", what, brief(got), brief(p))
	}
	if got, want := s.Result(), solved(t, p); !alikeResult(got, want) {
		t.Fatalf("W9: %s: Result: %s, want %s, of\n%s", what, brief(got), brief(want), told(p))
	}
}

// changed: the program with these functions at these numbers, in memory of its own as far as functions go.
func changed(p api.Program, at []int, fs []api.Func) api.Program {
	p.Funcs = slices.Clone(p.Funcs)
	for _, n := range at {
		for n >= len(p.Funcs) {
			p.Funcs = append(p.Funcs, api.Func{})
		}
	}
	for i, n := range at {
		p.Funcs[n] = fs[i]
	}
	return p
}

// solves: the change goes well, and these components are solved anew by it.
func solves(t *testing.T, what string, s *incr.Session, at []int, fs []api.Func, want ...[]int) {
	t.Helper()
	p := changed(s.Program(), at, fs)
	if l, e := s.Change(at, fs); e != api.OK || !alikeLists(l, want) {
		t.Fatalf("P20.3: %s: Change at %s: %s, error %d, want %s, of\n%s", what, brief(at), brief(l), e, brief(want), told(p))
	}
	stands(t, what, s, p)
}

// becomes: solves, of one function of the kind of ones.
func becomes(t *testing.T, what string, s *incr.Session, at int, lines string, want ...[]int) {
	t.Helper()
	solves(t, what, s, []int{at}, []api.Func{one(t, lines)}, want...)
}

// refuses: the change is answered by this error alone, and nothing has changed.
func refuses(t *testing.T, what string, s *incr.Session, at []int, fs []api.Func, want api.Errno) {
	t.Helper()
	p, r := s.Program(), s.Result()
	if l, e := s.Change(at, fs); e != want || len(l) > 0 {
		t.Errorf("P20.2: %s: Change: %s, error %d, want the error %d alone", what, brief(l), e, want)
	}
	if !alikeProgram(s.Program(), p) || !alikeResult(s.Result(), r) {
		t.Fatalf("P20.2: %s: it has changed, with an error", what)
	}
}

func ret(args ...int) api.Instr { return api.Instr{Op: api.Return, Args: args} }

func call(n int, args, rets []int) api.Instr {
	return api.Instr{Op: api.Call, N: n, Args: args, Rets: rets}
}
