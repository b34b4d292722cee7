package text_test

import (
	"fmt"
	"math/rand"
	"regexp"
	"strconv"
	"strings"
	"testing"

	"fugue/api"
	"fugue/code"
	"fugue/text"
)

// rule: a line as one pattern over its bytes, not over tokens; and what it is.
type rule struct {
	pattern *regexp.Regexp
	instr   func(m []string) api.Instr
}

// pattern: _ stands for perhaps some blanks, ~ for some; V, N, L for a variable, a number, a list of variables.
func pattern(s string) *regexp.Regexp {
	number := `(0|[1-9][0-9]{0,8})`
	plain := `v(?:0|[1-9][0-9]{0,8})`
	s = strings.NewReplacer(
		"_", `[ \t]*`, "~", `[ \t]+`, "V", "v"+number, "N", number,
		"L", `(`+plain+`(?:[ \t]*,[ \t]*`+plain+`)*)`,
		"I", `(?:[ \t]+(0|[1-9][0-9]*)|[ \t]*(-[1-9][0-9]*))`,
	).Replace(s)
	return regexp.MustCompile(`^[ \t]*` + s + `[ \t]*(?:#[^\n]*)?$`)
}

func number(s string) int { n, _ := strconv.Atoi(s); return n }

func list(s string) []int {
	var l []int
	for _, v := range strings.Split(s, ",") {
		if v = strings.Trim(v, " \t"); v != "" {
			l = append(l, number(v[1:]))
		}
	}
	return l
}

func rst(op int) func(m []string) api.Instr {
	return func(m []string) api.Instr {
		return api.Instr{Op: op, R: number(m[1]), S: number(m[2]), T: number(m[3])}
	}
}

func rn(op int) func(m []string) api.Instr {
	return func(m []string) api.Instr { return api.Instr{Op: op, R: number(m[1]), N: number(m[2])} }
}

func rs(op int) func(m []string) api.Instr {
	return func(m []string) api.Instr { return api.Instr{Op: op, R: number(m[1]), S: number(m[2])} }
}

func sn(op int) func(m []string) api.Instr {
	return func(m []string) api.Instr { return api.Instr{Op: op, S: number(m[1]), N: number(m[2])} }
}

var rules = []rule{
	{pattern(`V_=_intI`), func(m []string) api.Instr {
		n, _ := strconv.ParseInt(m[2]+m[3], 10, 64)
		return api.Instr{Op: api.Int, R: number(m[1]), N: int(n)}
	}},
	{pattern(`V_=_V`), rs(api.Copy)},
	{pattern(`V_=_V_\+_V`), rst(api.Add)},
	{pattern(`V_=_V_<_V`), rst(api.Less)},
	{pattern(`V_=_V_==_V`), rst(api.Same)},
	{pattern(`V_=_null`), func(m []string) api.Instr { return api.Instr{Op: api.Null, R: number(m[1])} }},
	{pattern(`V_=_&_V`), rs(api.Addr)},
	{pattern(`V_=_new~N`), rn(api.New)},
	{pattern(`V_=_V_\._N`), func(m []string) api.Instr {
		return api.Instr{Op: api.Load, R: number(m[1]), S: number(m[2]), N: number(m[3])}
	}},
	{pattern(`V_\._N_=_V`), func(m []string) api.Instr {
		return api.Instr{Op: api.Store, R: number(m[1]), N: number(m[2]), S: number(m[3])}
	}},
	{pattern(`V_=_gN`), rn(api.Get)},
	{pattern(`gN_=_V`), func(m []string) api.Instr {
		return api.Instr{Op: api.Set, N: number(m[1]), S: number(m[2])}
	}},
	{pattern(`(?:L_=_)?fN_\(_L?_\)`), func(m []string) api.Instr {
		return api.Instr{Op: api.Call, N: number(m[2]), Rets: list(m[1]), Args: list(m[3])}
	}},
	{pattern(`print~V`), func(m []string) api.Instr { return api.Instr{Op: api.Print, S: number(m[1])} }},
	{pattern(`jump~N`), func(m []string) api.Instr { return api.Instr{Op: api.Jump, N: number(m[1])} }},
	{pattern(`if~V~jump~N`), sn(api.If)},
	{pattern(`return`), func(m []string) api.Instr { return api.Instr{Op: api.Return} }},
	{pattern(`return~L`), func(m []string) api.Instr { return api.Instr{Op: api.Return, Args: list(m[1])} }},
}

var (
	emptyLine   = pattern(``)
	globalsLine = pattern(`globals~N`)
	headLine    = pattern(`func~params~N~results~N~vars~N`)
)

// tooWide: an int that matches its pattern but not its 64 bits.
func tooWide(m []string) bool {
	if len(m) != 4 || m[2]+m[3] == "" {
		return false
	}
	_, err := strconv.ParseInt(m[2]+m[3], 10, 64)
	return err != nil
}

func plainInstr(line string) (api.Instr, bool) {
	for i, r := range rules {
		if m := r.pattern.FindStringSubmatch(line); m != nil && !(i == 0 && tooWide(m)) {
			return r.instr(m), true
		}
	}
	return api.Instr{}, false
}

// plainParse: what Parse must answer, by the patterns.
func plainParse(t string) (api.Program, api.Errno, int) {
	var p api.Program
	begun := false
	all := strings.Split(t, "\n")
	for at, line := range all {
		if emptyLine.MatchString(line) {
			continue
		}
		i, isInstr := plainInstr(line)
		g, h := globalsLine.FindStringSubmatch(line), headLine.FindStringSubmatch(line)
		switch {
		case g != nil && !begun:
			begun, p.Globals = true, number(g[1])
		case h != nil && begun:
			p.Funcs = append(p.Funcs, api.Func{Params: number(h[1]), Results: number(h[2]), Vars: number(h[3])})
		case isInstr && len(p.Funcs) > 0:
			f := &p.Funcs[len(p.Funcs)-1]
			f.Code = append(f.Code, i)
		default:
			return api.Program{}, api.ErrText, at + 1
		}
	}
	if len(p.Funcs) == 0 {
		return api.Program{}, api.ErrText, len(all)
	}
	if e := code.Check(p); e != api.OK {
		return api.Program{}, e, 0
	}
	return p, api.OK, 0
}

func vars(r *rand.Rand, n, most int) []int {
	l := make([]int, n)
	for i := range l {
		l[i] = r.Intn(most)
	}
	return l
}

// anyInstr: of a right program with these functions.
func anyInstr(r *rand.Rand, p *api.Program, f *api.Func, length int) api.Instr {
	v := func() int { return r.Intn(f.Vars) }
	switch op := 1 + r.Intn(17); op {
	case api.Int:
		return api.Instr{Op: op, R: v(), N: int(r.Uint64()) >> r.Intn(64)}
	case api.Copy, api.Addr:
		return api.Instr{Op: op, R: v(), S: v()}
	case api.Add, api.Less, api.Same:
		return api.Instr{Op: op, R: v(), S: v(), T: v()}
	case api.New:
		return api.Instr{Op: op, R: v(), N: 1 + r.Intn(8)}
	case api.Load, api.Store:
		return api.Instr{Op: op, R: v(), S: v(), N: r.Intn(8)}
	case api.Get:
		return api.Instr{Op: op, R: v(), N: r.Intn(p.Globals)}
	case api.Set:
		return api.Instr{Op: op, S: v(), N: r.Intn(p.Globals)}
	case api.Call:
		n := r.Intn(len(p.Funcs))
		return api.Instr{Op: op, N: n, Args: vars(r, p.Funcs[n].Params, f.Vars), Rets: vars(r, p.Funcs[n].Results, f.Vars)}
	case api.Print:
		return api.Instr{Op: op, S: v()}
	case api.Jump:
		return api.Instr{Op: op, N: r.Intn(length)}
	case api.If:
		return api.Instr{Op: op, S: v(), N: r.Intn(length)}
	case api.Null:
		return api.Instr{Op: op, R: v()}
	}
	return api.Instr{Op: api.Return, Args: vars(r, f.Results, f.Vars)}
}

// anyProgram: a right one.
func anyProgram(r *rand.Rand) api.Program {
	p := api.Program{Globals: 1 + r.Intn(16), Funcs: make([]api.Func, 1+r.Intn(4))}
	for i := range p.Funcs {
		vars := 1 + r.Intn(255)
		p.Funcs[i] = api.Func{Params: r.Intn(1 + min(8, vars)), Results: r.Intn(5), Vars: vars}
	}
	for i := range p.Funcs {
		f := &p.Funcs[i]
		length := 1 + r.Intn(12)
		for range length - 1 {
			f.Code = append(f.Code, anyInstr(r, &p, f, length))
		}
		f.Code = append(f.Code, api.Instr{Op: api.Return, Args: vars(r, f.Results, f.Vars)})
	}
	return p
}

// canonical: a right program's text, made of Instr's answers.
func canonical(p api.Program) string {
	var b strings.Builder
	fmt.Fprintf(&b, "globals %d\n", p.Globals)
	for _, f := range p.Funcs {
		fmt.Fprintf(&b, "func params %d results %d vars %d\n", f.Params, f.Results, f.Vars)
		for _, i := range f.Code {
			fmt.Fprintf(&b, "  %s\n", text.Instr(i))
		}
	}
	return b.String()
}

// TestParseOfPrint: is the program; the text is made of Instr's; the patterns read it alike.
func TestParseOfPrint(t *testing.T) {
	r := rand.New(rand.NewSource(2))
	for n := range 400 {
		p := anyProgram(r)
		s := printed(t, "any", p)
		if s != canonical(p) {
			t.Fatalf("P2.2 program %d: %q, but its lines are %q", n, s, canonical(p))
		}
		if q := parsed(t, s, s); !same(p, q) {
			t.Fatalf("P2.1 program %d: Parse of Print is another one: %q", n, s)
		}
		if q, e, _ := plainParse(s); e != api.OK || !same(p, q) {
			t.Fatalf("P2.2 program %d: %q is not its text", n, s)
		}
	}
}

var pieces = []string{
	" ", "\t", "\n", "#", "=", "==", "+", "<", "&", ".", ",", "(", ")", "-", "0", "1", "9", "v", "g", "f", "v0", "v1", "g0", "f0", "f1()", "int", " int ", "null", "new", "print ", "jump ", "if ", "return", "\nreturn\n", "globals 1\n", "\nglobals 1\n", "\nfunc params 0 results 0 vars 1\n", "func ", " params ", " 999999999 ", "1000000000", "-9223372036854775808", "9223372036854775808", "int-1", "@", "\x00", "\xff", "\r", "V", "v0 = v0\n", ", v1", "v0.0",
}

// spoil: a text with some of its bytes, lines or pieces laid elsewhere, gone, or new.
func spoil(r *rand.Rand, t string) string {
	for range 1 + r.Intn(3) {
		at := r.Intn(len(t) + 1)
		end := min(len(t), at+r.Intn(4))
		piece := pieces[r.Intn(len(pieces))]
		switch r.Intn(5) {
		case 0:
			t = t[:at] + piece + t[at:]
		case 1:
			t = t[:at] + t[end:]
		case 2:
			t = t[:at] + piece + t[end:]
		case 3:
			l := strings.Split(t, "\n")
			i, k := r.Intn(len(l)), r.Intn(len(l))
			l[i], l[k] = l[k], l[i]
			t = strings.Join(l, "\n")
		case 4:
			blanks := []string{" ", "\t", "  "}
			t = t[:at] + blanks[r.Intn(3)] + t[at:]
		}
	}
	return t
}

// TestParseOfAnyText: Parse answers what the patterns say; what it takes has one canonical text.
func TestParseOfAnyText(t *testing.T) {
	r := rand.New(rand.NewSource(3))
	taken, failed := 0, 0
	for range 6000 {
		s := spoil(r, canonical(anyProgram(r)))
		want, wantErr, wantLine := plainParse(s)
		p, e, line := text.Parse(s)
		if e != wantErr || line != wantLine || !same(p, want) {
			t.Fatalf("P2.1 %q: %d at %d, want %d at %d", s, e, line, wantErr, wantLine)
		}
		if e != api.OK {
			failed++
			continue
		}
		taken++
		if q := parsed(t, s, printed(t, s, p)); !same(p, q) {
			t.Fatalf("P2.2 %q: Parse of Print is another program", s)
		}
	}
	if taken < 500 || failed < 500 {
		t.Errorf("the texts are too much alike: %d taken, %d refused", taken, failed)
	}
}

// TestLinesOfAnyTokens: short lines of any tokens, all alike and next to one another: read just if a pattern has them.
func TestLinesOfAnyTokens(t *testing.T) {
	tokens := []string{"v0", "v1", "g0", "f0", "0", "-1", "=", "==", "+", "<", "&", ".", ",", "(", ")", "int", "null", "new", "print", "jump", "if", "return"}
	r := rand.New(rand.NewSource(4))
	head := "globals 1\nfunc params 0 results 0 vars 2\n"
	check := func(line string) {
		want, wantErr, wantLine := plainParse(head + line + "\nreturn")
		p, e, at := text.Parse(head + line + "\nreturn")
		if e != wantErr || at != wantLine || !same(p, want) {
			t.Fatalf("P2.1 %q: %d at %d, want %d at %d", line, e, at, wantErr, wantLine)
		}
	}
	for _, a := range tokens {
		check(a)
		for _, b := range tokens {
			check(a + b)
			check(a + " " + b)
			for _, c := range tokens {
				check(a + " " + b + " " + c)
				check(a + b + c)
			}
		}
	}
	for range 4000 {
		line := "v0" + []string{"=", " = ", ".", ","}[r.Intn(4)]
		for range 1 + r.Intn(5) {
			line += tokens[r.Intn(len(tokens))] + []string{"", " "}[r.Intn(2)]
		}
		check(line)
	}
}
