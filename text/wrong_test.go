package text_test

import (
	"strings"
	"testing"

	"fugue/api"
	"fugue/text"
)

const right = "globals 0\nfunc params 0 results 0 vars 3\nreturn\n"

// TestWrongBytes: each byte that no token has, anywhere outside a comment.
func TestWrongBytes(t *testing.T) {
	for c := range 256 {
		if strings.IndexByte(" \t\n#=+<&.,()", byte(c)) >= 0 || c >= 'a' && c <= 'z' || c >= '0' && c <= '9' {
			continue
		}
		b := string([]byte{byte(c)})
		for _, line := range []string{b, b + "v0 = v1", "v0 = v1" + b, "v0 = v1 " + b + " ", "v0 " + b + "= v1", "v0 = v1 " + b + "# x", "return" + b} {
			refused(t, line, right+line+"\n", api.ErrText, 4)
		}
		refused(t, b+" at the first line", b+"\n"+right, api.ErrText, 1)
		if p := parsed(t, "a comment with "+b, right+"return#"+b+"\n"); len(p.Funcs) != 1 || len(p.Funcs[0].Code) != 2 {
			t.Errorf("P2.1 a comment with %q: %+v", b, p)
		}
	}
}

// TestWrongLines: lines that can stand nowhere.
func TestWrongLines(t *testing.T) {
	for _, s := range []string{
		"v0", "v0 =", "= v0", "v0 v1", "v0 = v1 v2", "v0 = v1 +", "v0 = + v1", "v0 = v1 + v2 + v0", "v0 = v1 + 1", "v0 = 1", "v0 = v1 <", "v0 = v1 < < v2", "v0 = v1 <= v2",
		"v0 = &", "v0 = & &v1", "v0 = &g0", "v0 = v1 &", "v0 = & v1 v2", "v0 = new", "v0 = new v1", "v0 = new 1 1", "v0 = v1.", "v0 = v1.v2", "v0 = v1.0.0", "v0 = .0", "v0.0", "v0.0 =", "v0.0 = 1", "v0.0 = v1.0", "v0.v1 = v1", "v0. = v1", "v0.0.0 = v1", ".0 = v1",
		"v0 = int", "v0 = int v1", "v0 = int int", "v0 = nul", "v0 = nulll", "v0 = null null", "v0 = nil", "g0", "g0 =", "g0 = g0", "g0 = int 1", "v0 = g", "v0 = g0 g0", "g0 = v1 v2", "g0.0 = v1", "v0 = g0.0",
		"f0", "f0(", "f0)", "f0(v0", "f0 v0", "f0(v0,)", "f0(,v0)", "f0(,)", "f0(v0 v1)", "f0(v0,,v1)", "f0(1)", "f0(g0)", "f0(())", "f0()()", "f0() v0", "f()", "f(v0)", "(v0)", "()",
		"v0 = f0", "v0 = f0(", "v0, = f0()", ", v0 = f0()", "v0,, v1 = f0()", "v0 v1 = f0()", "= f0()", "v0 = v1 = f0()", "v0, v1 f0()", "v0, g0 = f0()", "g0 = f0()", "v0, v1 = v2", "v0, v1", "v0, v1 =", "v0.0 = f0()", "v0 = f0() + v1",
		"print", "print 0", "print g0", "print v0 v1", "print v0, v1", "print v", "print -1", "jump", "jump v0", "jump f0", "jump 0 0", "jump -1", "if", "if v0", "if v0 jump", "if jump 0", "if 0 jump 0", "if v0 v1 jump 0", "if v0 jump v0", "if v0 jump 0 0", "if g0 jump 0",
		"return v0,", "return ,", "return ,v0", "return v0 v1", "return 0", "return g0", "return return", "return (v0)", "returns", "retur",
		"globals 0", "globals", "func", "func params 0", "func params 0 results 0", "func params 0 results 0 vars", "func params 0 results 0 vars 0 0", "func results 0 params 0 vars 0", "func params 0, results 0, vars 0", "func 0 0 0", "params 0 results 0 vars 0", "func params v0 results 0 vars 0",
		"V0 = v1", "v0 = v01", "v00 = v1", "v = v1", "v0 = v", "w0 = v1", "v0 = va", "v0a = v1", "vv0 = v1", "vg0 = v1", "0", "-1", "0 = v1", "a", "foo", "+", "<", "&", ".", ",", "(", ")", "=", "==",
		"v0 = M", "R = S", "R = v0", "A", "return A", "v0 = I", "print S", "jump N",
	} {
		refused(t, s, right+s+"\nreturn\n", api.ErrText, 4)
		refused(t, s, right+s, api.ErrText, 4)
	}
}

// TestWhereLinesStand: lines that are right, but not there.
func TestWhereLinesStand(t *testing.T) {
	for _, s := range samples() {
		refused(t, "ahead of globals: "+s.canonical, s.canonical+"\n"+right, api.ErrText, 1)
		refused(t, "ahead of the first function: "+s.canonical, "globals 0\n\n"+s.canonical+"\n"+right, api.ErrText, 3)
	}
	head := "func params 0 results 0 vars 0\n"
	refused(t, "a function ahead of globals", head+"globals 0\n"+head+"return\n", api.ErrText, 1)
	refused(t, "globals twice", "globals 0\nglobals 0\n"+head+"return\n", api.ErrText, 2)
	refused(t, "globals behind a head", "globals 0\n"+head+"globals 0\nreturn\n", api.ErrText, 3)
	refused(t, "globals at the end", "globals 0\n"+head+"return\nglobals 0", api.ErrText, 4)
}

// TestMissing: the number of line feeds and 1, wherever the text ends.
func TestMissing(t *testing.T) {
	for s, line := range map[string]int{
		"": 1, " ": 1, "#": 1, "\n": 2, "\n\n": 3, "#\n \n#": 3,
		"globals 1": 1, "globals 1\n": 2, "globals 1\n\n\n": 4, "\n\nglobals 1": 3, "globals 1\n# func params 0 results 0 vars 0": 2, "globals 16\n#\n": 3,
		"globals 999999999": 1, // that these are too many is found only when all else is there
	} {
		refused(t, "missing", s, api.ErrText, line)
	}
}

// TestFirstWrongLine: of several the first one counts, and lines that can stand there but are wrong for code.Check are found only behind all others.
func TestFirstWrongLine(t *testing.T) {
	for s, line := range map[string]int{
		"@\n@\n@": 1, "globals 0\n@\nfunc\n@": 2, "x\n" + right: 1,
		right + "v0 = v9\n\nv0 = v\n@\n":                                         6,
		right + "v0 = v9\nf9()\njump 99\nv0":                                     7,
		"globals 99\nfunc params 9 results 9 vars 9\nfoo":                        3,
		"globals 99\nprint v0\n":                                                 2,
		"globals 0\nfunc params 0 results 0 vars 0\n\nfunc params 0 results 0\n": 4,
	} {
		refused(t, "several", s, api.ErrText, line)
		refused(t, "several, and more behind", s+"\n"+right+"\n@", api.ErrText, line)
		refused(t, "several, and more behind", s+"\n\x00", api.ErrText, line)
	}
}

// TestRefusedPrograms: what code.Check refuses: its error, and 0; of Print: its error alone.
func TestRefusedPrograms(t *testing.T) {
	head := "globals 2\nfunc params 0 results 0 vars 2\n"
	for _, c := range []struct {
		name, text string
		program    api.Program
		want       api.Errno
	}{
		{"17 globals", "globals 17\nfunc params 0 results 0 vars 0\nreturn\n", api.Program{Globals: 17, Funcs: []api.Func{{Code: []api.Instr{{Op: api.Return}}}}}, api.ErrGlobal},
		{"9 parameters", "globals 0\nfunc params 9 results 0 vars 9\nreturn\n", api.Program{Funcs: []api.Func{{Params: 9, Vars: 9, Code: []api.Instr{{Op: api.Return}}}}}, api.ErrHead},
		{"5 results", "globals 0\nfunc params 0 results 5 vars 9\nreturn\n", api.Program{Funcs: []api.Func{{Results: 5, Vars: 9, Code: []api.Instr{{Op: api.Return}}}}}, api.ErrHead},
		{"256 variables", "globals 0\nfunc params 0 results 0 vars 256\nreturn\n", api.Program{Funcs: []api.Func{{Vars: 256, Code: []api.Instr{{Op: api.Return}}}}}, api.ErrHead},
		{"no instruction", head, api.Program{Globals: 2, Funcs: []api.Func{{Vars: 2}}}, api.ErrEnd},
		{"no instruction of the first", head + head[10:] + "return\n", api.Program{Globals: 2, Funcs: []api.Func{{Vars: 2}, {Vars: 2, Code: []api.Instr{{Op: api.Return}}}}}, api.ErrEnd},
		{"runs off its end", head + "v0 = v1\n", api.Program{Globals: 2, Funcs: []api.Func{{Vars: 2, Code: []api.Instr{{Op: api.Copy, S: 1}}}}}, api.ErrEnd},
		{"no such variable", head + "v2 = v1\nreturn\n", api.Program{Globals: 2, Funcs: []api.Func{{Vars: 2, Code: []api.Instr{{Op: api.Copy, R: 2, S: 1}, {Op: api.Return}}}}}, api.ErrVar},
		{"a New of 0", head + "v1 = new 0\nreturn\n", api.Program{Globals: 2, Funcs: []api.Func{{Vars: 2, Code: []api.Instr{{Op: api.New, R: 1}, {Op: api.Return}}}}}, api.ErrField},
		{"no such global", head + "v1 = g2\nreturn\n", api.Program{Globals: 2, Funcs: []api.Func{{Vars: 2, Code: []api.Instr{{Op: api.Get, R: 1, N: 2}, {Op: api.Return}}}}}, api.ErrGlobal},
		{"no such function", head + "f1()\nreturn\n", api.Program{Globals: 2, Funcs: []api.Func{{Vars: 2, Code: []api.Instr{{Op: api.Call, N: 1}, {Op: api.Return}}}}}, api.ErrFunc},
		{"an argument too many", head + "f0(v0)\nreturn\n", api.Program{Globals: 2, Funcs: []api.Func{{Vars: 2, Code: []api.Instr{{Op: api.Call, Args: []int{0}}, {Op: api.Return}}}}}, api.ErrArity},
		{"a result too many", head + "return v0\n", api.Program{Globals: 2, Funcs: []api.Func{{Vars: 2, Code: []api.Instr{{Op: api.Return, Args: []int{0}}}}}}, api.ErrArity},
		{"a jump too far", head + "jump 1\n", api.Program{Globals: 2, Funcs: []api.Func{{Vars: 2, Code: []api.Instr{{Op: api.Jump, N: 1}}}}}, api.ErrJump},
	} {
		refused(t, c.name, c.text, c.want, 0)
		refused(t, c.name, c.text+"\n# and a comment", c.want, 0)
		if s, e := text.Print(c.program); s != "" || e != c.want {
			t.Errorf("P2.2 %s: Print: %q, %d, want %d", c.name, s, e, c.want)
		}
	}
	unnamed := api.Program{Funcs: []api.Func{{Code: []api.Instr{{Op: api.Return, R: 1}}}}}
	for _, c := range []struct {
		p    api.Program
		want api.Errno
	}{{api.Program{}, api.ErrHead}, {unnamed, api.ErrArg}, {api.Program{Globals: -1}, api.ErrGlobal}} {
		if s, e := text.Print(c.p); s != "" || e != c.want {
			t.Errorf("P2.2: Print of %+v: %q, %d, want %d", c.p, s, e, c.want)
		}
	}
}

// TestSameBeginning: behind a line that cannot stand there, nothing matters.
func TestSameBeginning(t *testing.T) {
	whole := begin + "v0 = v0\nreturn\n" + callees
	l := strings.Split(whole, "\n")
	for at := range l {
		for _, bad := range []string{"@", "v0 = v1 v2", "globals 0 0"} {
			ahead := strings.Join(append(append([]string{}, l[:at]...), bad), "\n")
			refused(t, "cut", ahead, api.ErrText, at+1)
			refused(t, "gone on with", ahead+"\n"+strings.Join(l[at:], "\n"), api.ErrText, at+1)
			refused(t, "gone on with", ahead+"\n\xff\n@@\n", api.ErrText, at+1)
		}
	}
}
