package text_test

import (
	"slices"
	"strings"
	"testing"

	"fugue/api"
	"fugue/text"
)

// sample: a line of the chapter's table: its tokens, its canonical text, and the instruction that it is.
type sample struct {
	tokens, canonical string
	instr             api.Instr
}

// samples: each of the seventeen lines; those with lists also with one, several, none. Of every instruction all numbers but those that the operation does not name are other than zero, and other than one another.
func samples() []sample {
	return []sample{
		{"v4 = int 17", "v4 = int 17", api.Instr{Op: api.Int, R: 4, N: 17}},
		{"v4 = int -17", "v4 = int -17", api.Instr{Op: api.Int, R: 4, N: -17}},
		{"v4 = v5", "v4 = v5", api.Instr{Op: api.Copy, R: 4, S: 5}},
		{"v4 = v5 + v6", "v4 = v5 + v6", api.Instr{Op: api.Add, R: 4, S: 5, T: 6}},
		{"v4 = v5 < v6", "v4 = v5 < v6", api.Instr{Op: api.Less, R: 4, S: 5, T: 6}},
		{"v4 = v5 == v6", "v4 = v5 == v6", api.Instr{Op: api.Same, R: 4, S: 5, T: 6}},
		{"v4 = null", "v4 = null", api.Instr{Op: api.Null, R: 4}},
		{"v4 = & v5", "v4 = &v5", api.Instr{Op: api.Addr, R: 4, S: 5}},
		{"v4 = new 3", "v4 = new 3", api.Instr{Op: api.New, R: 4, N: 3}},
		{"v4 = v5 . 3", "v4 = v5.3", api.Instr{Op: api.Load, R: 4, S: 5, N: 3}},
		{"v4 . 3 = v5", "v4.3 = v5", api.Instr{Op: api.Store, R: 4, S: 5, N: 3}},
		{"v4 = g3", "v4 = g3", api.Instr{Op: api.Get, R: 4, N: 3}},
		{"g3 = v5", "g3 = v5", api.Instr{Op: api.Set, S: 5, N: 3}},
		{"f1 ( )", "f1()", api.Instr{Op: api.Call, N: 1}},
		{"f2 ( v5 )", "f2(v5)", api.Instr{Op: api.Call, N: 2, Args: []int{5}}},
		{"f3 ( v5 , v6 , v7 )", "f3(v5, v6, v7)", api.Instr{Op: api.Call, N: 3, Args: []int{5, 6, 7}}},
		{"v4 = f4 ( )", "v4 = f4()", api.Instr{Op: api.Call, N: 4, Rets: []int{4}}},
		{"v4 , v8 = f5 ( v5 )", "v4, v8 = f5(v5)", api.Instr{Op: api.Call, N: 5, Args: []int{5}, Rets: []int{4, 8}}},
		{"v4 , v8 , v4 = f6 ( v5 , v5 )", "v4, v8, v4 = f6(v5, v5)", api.Instr{Op: api.Call, N: 6, Args: []int{5, 5}, Rets: []int{4, 8, 4}}},
		{"print v5", "print v5", api.Instr{Op: api.Print, S: 5}},
		{"jump 3", "jump 3", api.Instr{Op: api.Jump, N: 3}},
		{"if v5 jump 3", "if v5 jump 3", api.Instr{Op: api.If, S: 5, N: 3}},
		{"return v5", "return v5", api.Instr{Op: api.Return, Args: []int{5}}},
		{"return v5 , v6 , v5", "return v5, v6, v5", api.Instr{Op: api.Return, Args: []int{5, 6, 5}}},
		{"return", "return", api.Instr{Op: api.Return}},
	}
}

const (
	begin = "globals 4\nfunc params 0 results 0 vars 9\n"
	// callees: f1 to f6, as the samples call them.
	callees = "func params 0 results 0 vars 0\n  return\n" +
		"func params 1 results 0 vars 1\n  return\n" +
		"func params 3 results 0 vars 3\n  return\n" +
		"func params 0 results 1 vars 1\n  return v0\n" +
		"func params 1 results 2 vars 1\n  return v0, v0\n" +
		"func params 2 results 3 vars 2\n  return v0, v1, v0\n" +
		"func params 0 results 1 vars 9\n  return v5\n" +
		"func params 0 results 3 vars 9\n  return v5, v6, v5\n"
)

// around: a text of a right program in which a line of a sample stands; the line's number, and where its instruction is then.
func around(line string, i api.Instr) (t string, number, function, at int) {
	if i.Op == api.Return && len(i.Args) > 0 {
		return begin + "return\n" + callees + "func params 0 results " + string(rune('0'+len(i.Args))) + " vars 9\n" + line + "\n", 21, 9, 0
	}
	return begin + "v0 = v0\n" + line + "\njump 0\nreturn\n" + callees, 4, 0, 1
}

func sameInstr(x, y api.Instr) bool {
	return x.Op == y.Op && x.R == y.R && x.S == y.S && x.T == y.T && x.N == y.N && slices.Equal(x.Args, y.Args) && slices.Equal(x.Rets, y.Rets)
}

func sameFunc(f, g api.Func) bool {
	return f.Params == g.Params && f.Results == g.Results && f.Vars == g.Vars && slices.EqualFunc(f.Code, g.Code, sameInstr)
}

// same: two programs are alike, a nil list and one without elements too.
func same(p, q api.Program) bool {
	return p.Globals == q.Globals && slices.EqualFunc(p.Funcs, q.Funcs, sameFunc)
}

func isNone(p api.Program) bool { return p.Globals == 0 && len(p.Funcs) == 0 }

// parsed asks Parse of a text that is a right program's.
func parsed(t *testing.T, name, s string) api.Program {
	t.Helper()
	p, e, line := text.Parse(s)
	if e != api.OK || line != 0 {
		t.Errorf("P2.1 %s: Parse: %d at %d, want a program", name, e, line)
	}
	return p
}

// printed asks Print of a right program.
func printed(t *testing.T, name string, p api.Program) string {
	t.Helper()
	s, e := text.Print(p)
	if e != api.OK {
		t.Errorf("P2.2 %s: Print: %d", name, e)
	}
	return s
}

// refused asks Parse of a text that is not right.
func refused(t *testing.T, name, s string, want api.Errno, line int) {
	t.Helper()
	p, e, got := text.Parse(s)
	if e != want || got != line || !isNone(p) {
		t.Errorf("P2.1 %s: Parse: %d at %d, want %d at %d; no program: %v", name, e, got, want, line, isNone(p))
	}
}

// lines: a text of some lines, each ended.
func lines(l ...string) string { return strings.Join(l, "\n") + "\n" }
