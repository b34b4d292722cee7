package text_test

import (
	"strings"
	"testing"

	"fugue/api"
	"fugue/text"
)

// TestEachLineRead: each line as the table has it, and in its canonical text, is its instruction.
func TestEachLineRead(t *testing.T) {
	for _, s := range samples() {
		for _, line := range []string{s.tokens, s.canonical, "  " + s.canonical} {
			whole, _, f, at := around(line, s.instr)
			p := parsed(t, line, whole)
			if isNone(p) {
				continue
			}
			if got := p.Funcs[f].Code[at]; !sameInstr(got, s.instr) {
				t.Errorf("P2.1 %q: %+v, want %+v", line, got, s.instr)
			}
		}
	}
}

// TestEachLineWritten: by Instr, and in Print with two blanks ahead.
func TestEachLineWritten(t *testing.T) {
	for _, s := range samples() {
		if got := text.Instr(s.instr); got != s.canonical {
			t.Errorf("P2.3 Instr(%+v): %q, want %q", s.instr, got, s.canonical)
		}
		whole, number, _, _ := around(s.tokens, s.instr)
		got := strings.Split(printed(t, s.tokens, parsed(t, s.tokens, whole)), "\n")
		if len(got) < number || got[number-1] != "  "+s.canonical {
			t.Errorf("P2.2 %q: written %q", s.tokens, got)
		}
	}
}

// TestSeventeen: the samples leave out no operation.
func TestSeventeen(t *testing.T) {
	seen := map[int]int{}
	for _, s := range samples() {
		seen[s.instr.Op]++
	}
	for op := api.Int; op <= api.Same; op++ {
		if seen[op] == 0 {
			t.Errorf("no sample of operation %d", op)
		}
	}
}

// TestHeads: the lines that are no instructions, read and written.
func TestHeads(t *testing.T) {
	want := lines("globals 16", "func params 2 results 3 vars 5", "  return v0, v1, v4", "func params 0 results 0 vars 0", "  jump 0", "func params 8 results 4 vars 255", "  return v254, v0, v7, v1")
	p := parsed(t, "heads", want)
	if p.Globals != 16 || len(p.Funcs) != 3 {
		t.Fatalf("P2.1 heads: %+v", p)
	}
	for i, head := range [][3]int{{2, 3, 5}, {0, 0, 0}, {8, 4, 255}} {
		if f := p.Funcs[i]; [3]int{f.Params, f.Results, f.Vars} != head || len(f.Code) != 1 {
			t.Errorf("P2.1 heads: function %d is %+v", i, f)
		}
	}
	if got := printed(t, "heads", p); got != want {
		t.Errorf("P2.2 heads: %q", got)
	}
}

// TestChapterExamples: the first two examples of the chapter.
func TestChapterExamples(t *testing.T) {
	p := parsed(t, "example 1", "globals 1\nfunc params 1 results 1 vars 3\nv1 = & v0\nv2=v1.0#load\nreturn v2")
	want := lines("globals 1", "func params 1 results 1 vars 3", "  v1 = &v0", "  v2 = v1.0", "  return v2")
	if got := printed(t, "example 1", p); got != want {
		t.Errorf("P2.2 example 1: %q", got)
	}
	for s, i := range map[string]api.Instr{
		"v0, v1 = f2(v3, v4)": {Op: api.Call, N: 2, Args: []int{3, 4}, Rets: []int{0, 1}},
		"f0()":                {Op: api.Call},
		"g3 = v1":             {Op: api.Set, S: 1, N: 3},
		"if v0 jump 7":        {Op: api.If, N: 7},
		"v2.1 = v0":           {Op: api.Store, R: 2, N: 1},
		"return":              {Op: api.Return},
	} {
		if got := text.Instr(i); got != s {
			t.Errorf("P2.3 example 2: %q, want %q", got, s)
		}
	}
}

// TestZeros: numbers that are 0 are said like all others.
func TestZeros(t *testing.T) {
	want := lines("globals 1", "func params 0 results 0 vars 1",
		"  v0 = int 0", "  v0 = v0", "  v0 = v0 + v0", "  v0 = v0 < v0", "  v0 = v0 == v0", "  v0 = null", "  v0 = &v0", "  v0 = new 1",
		"  v0 = v0.0", "  v0.0 = v0", "  v0 = g0", "  g0 = v0", "  f0()", "  print v0", "  if v0 jump 0", "  jump 0", "  return")
	if got := printed(t, "zeros", parsed(t, "zeros", want)); got != want {
		t.Errorf("P2.2 zeros: %q", got)
	}
}

// TestOrder: functions and instructions keep the order of their lines.
func TestOrder(t *testing.T) {
	p := parsed(t, "order", lines("globals 0", "func params 0 results 0 vars 1", "v0 = int 1", "v0 = int 2", "return", "func params 0 results 0 vars 2", "v1 = int 3", "return"))
	want := api.Program{Funcs: []api.Func{
		{Vars: 1, Code: []api.Instr{{Op: api.Int, N: 1}, {Op: api.Int, N: 2}, {Op: api.Return}}},
		{Vars: 2, Code: []api.Instr{{Op: api.Int, R: 1, N: 3}, {Op: api.Return}}},
	}}
	if !same(p, want) {
		t.Errorf("P2.1 order: %+v", p)
	}
}
