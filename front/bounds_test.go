package front_test

import (
	"fmt"
	"strings"
	"testing"

	"fugue/api"
	"fugue/front"
)

// repeated: so many times, % being the number.
func repeated(text string, many int) string {
	var b strings.Builder
	for i := range many {
		b.WriteString(strings.ReplaceAll(text, "%", fmt.Sprint(i)))
	}
	return b.String()
}

func TestHowMany(t *testing.T) {
	for _, c := range []struct {
		what, before, one, behind, rest string
		most                            int
	}{
		{"functions", "", "fn f%() { } ", "@fn@ f() { }", "", 1023},
		{"functions, and other things", "", "fn f%() { } ", "record r { } global g int; @fn@ f() { }", "", 1023},
		{"functions, whatever is behind the word", "", "fn f%() { } ", "@fn@ ;", "", 1023},
		{"records", "fn f() { } ", "record r% { } ", "@record@ r { }", "", 100},
		{"records, and other things", "fn f() { } ", "record r% { } ", "global g int; fn g() { } @record@ 5", "", 100},
		{"globals", "fn f() { } ", "global g% int; ", "@global@ g int;", "", 16},
		{"globals of other kinds", "fn f() { } ", "global g% **int; ", "record r { } @global@", "", 16},
		{"fields", "fn f() { } record r { ", "f% int; ", "@f@ int; ", "}", 8},
		{"fields that are pointers", "fn f() { } record r { ", "f% *r; ", "@f@ *int; ", "}", 8},
		{"parameters", "fn f(a int", ", a% int", ", @a@ int", ") { }", 7},
		{"parameters of which one is more, and no name", "fn f(a int", ", a% int", ", @int@", ") { }", 7},
		{"parameters of a function that is not the first", "fn f() { } fn g(a *int", ", a% *int", ", @a@ *int", ") { }", 7},
		{"results", "fn f() int", ", int", ", @int@", " { }", 3},
		{"results that are pointers", "fn f() *int", ", **int", ", @*@int", " { }", 3},
		{"variables", "fn f() { ", "var v% int = 1; ", "@var@ v int = 1; ", "}", 64},
		{"variables beside a parameter", "fn f(a int) { ", "var v% int = a; ", "@var@ v int = 1; ", "}", 63},
		{"variables beside all parameters", "fn f(a int, b int, c int, d int, e int, f int, g int, h int) { ", "var v% int = a; ", "@var@ ;", "}", 56},
		{"variables in blocks", "fn f() { " + repeated("var w% int = 1; ", 52), "if 1 { var v% int = 1; } ", "if 1 { @var@ v int = 1; } ", "}", 12},
		{"statements behind", "fn f() { ", "var v% int = 1; ", "print v1; @var@ v int = 1; ", "}", 64},
	} {
		taken(t, c.what, c.before+repeated(c.one, c.most)+c.rest)
		taken(t, c.what, c.before+repeated(c.one, c.most-1)+c.rest)
		refused(t, c.what, api.ErrSource, c.before+repeated(c.one, c.most)+c.behind+c.rest)
	}
	taken(t, "all variables in each of two functions", "fn f() { "+repeated("var v% int = 1; ", 64)+"} fn g() { "+repeated("var v% int = 1; ", 64)+"}")
	taken(t, "all fields, parameters and results of two", "record r { "+repeated("a% int; ", 8)+"} record s { "+repeated("b% int; ", 8)+"} fn f(a int"+repeated(", a% int", 7)+") int, int, int, int { } fn g(b int"+repeated(", b% int", 7)+") int, int, int, int { }")
}

// tokensOf: statements that are so many tokens.
func tokensOf(many int) string {
	if many%3 == 0 {
		return strings.Repeat("print 1 ; ", many/3)
	}
	return "return ; " + tokensOf(many-2)
}

func TestHowManyTokens(t *testing.T) {
	for _, ahead := range []string{"", "record r { a int ; } ", "global g **int ; ", "fn first ( ) { " + tokensOf(494) + "} ", "fn a ( ) { } record r { } fn b ( ) { " + tokensOf(400) + "} "} {
		for _, behind := range []string{"", " fn last ( ) { }", " fn last ( ) { " + tokensOf(494) + "}", " record s { } global h int ;"} {
			for many := 495; many < 500; many++ {
				taken(t, "up to 500 tokens", ahead+"fn main ( ) { "+tokensOf(many-6)+"}"+behind)
			}
			src := ahead + "fn main ( ) { " + tokensOf(494) + "}" + behind
			taken(t, "500 tokens", src)
			taken(t, "500 tokens and comments", strings.ReplaceAll(src, ";", "; # print 1 ;\n"))
			taken(t, "500 tokens without blanks", strings.NewReplacer(" ; ", ";", " ( ", "(").Replace(src))
			for many := 501; many < 520; many++ {
				tokens := strings.Fields(ahead + "fn main ( ) { " + tokensOf(many-6) + "}" + behind)
				refusedAt(t, onLines(tokens), api.ErrSource, len(strings.Fields(ahead))+501)
			}
		}
	}
	for _, rest := range []string{"$", "}", "", "fn", "print 1 ; }", "fn g ( ) { }"} {
		tokens := strings.Fields("fn main ( ) { " + tokensOf(495) + rest)
		refusedAt(t, onLines(tokens), api.ErrSource, 501)
	}
	// Each kind of token counts once, whatever its length.
	for _, s := range []string{"x == y", "-123456 < 1", "null *int == &xyzxyzxyz", "new cell", "*p + q.v", "f(a, b)"} {
		tokens := len(strings.Fields(strings.NewReplacer(".", " . ", "(", " ( ", ")", " ) ", ",", " , ", "*", " * ", "&", " & ").Replace(s)))
		ahead := "fn main ( ) { print " + s + " ; "
		full := ahead + tokensOf(500-8-tokens) + "}"
		if _, e, _ := front.Print(full); e != api.OK {
			t.Errorf("P25.4: %q and 500 tokens: %d", s, e)
		}
		if _, e, _ := front.Print(ahead + tokensOf(501-8-tokens) + "}"); e != api.ErrSource {
			t.Errorf("P25.4: %q and 501 tokens: %d", s, e)
		}
	}
}

func TestHowDeep(t *testing.T) {
	for _, c := range []struct {
		before, open, mid, shut, after string // a line begins ahead of what counts
		most                           int
	}{
		{"fn f() { print ", "\n(", "1", ")", "; }", 31},
		{"fn f() { return ", "\n(", "1", ")", "; }", 31},
		{"fn f() { print ", "f\n(", "", ")", "; }", 31},
		{"fn f() { ", "f\n(", "", ")", "; }", 31},
		{"fn f() { x, y = ", "f\n(", "1", ")", "; }", 31},
		{"fn f() { print ", "\n*", "x", "", "; }", 31},
		{"fn f() { print ", "\n*", "x.f.g", "", "; }", 31},
		{"fn f() { print new ", "\n*", "int", "", "; }", 31},
		{"fn f() { print new ", "\n*", "r", "", "; }", 31},
		{"fn f() { print null ", "\n*", "int", "", "; }", 31},
		{"fn f() { var x ", "\n*", "r", "", " = 1; }", 31},
		{"fn f() { ", "\n*", "x", "", " = 1; }", 31},
		{"fn f() { ", "\n*", "(1)", "", " = 1; }", 30},
		{"fn f() { ", "\n*", "f(1)", "", " = 1; }", 30},
		{"fn f() { ", "\n*", "new *int", "", " = 1; }", 30},
		{"fn f() { ", "\n*", "null *int", "", " = 1; }", 30},
		{"fn f() { ", "\n(", "1", ")", ".f = 1; }", 31},
		{"fn f() { ", "if 1 \n{", " print 1; ", "}", " }", 31},
		{"fn f() { ", "while 1 \n{", " ", "}", " }", 31},
		{"fn f() { ", "if 1 \n{ } else {", " ", "}", " }", 31},
		{"fn f() { ", "if 1 \n{", " print (1); ", "}", " }", 30},
		{"fn f() { ", "if 1 \n{", " *x = 1; ", "}", " }", 30},
		{"fn f() { ", "if 1 \n{", " var x **int = 1; ", "}", " }", 29},
		{"fn f() ", "\n*", "int", "", " { }", 32},
		{"fn f() int, ", "\n*", "int", "", " { }", 32},
		{"fn f() { } fn g(a ", "\n*", "int", "", ") { }", 31},
		{"fn f() { } fn g(b int, a ", "\n*", "int", "", ") { }", 31},
		{"fn f() { } record r { a ", "\n*", "r", "", "; }", 31},
		{"fn f() { } global g ", "\n*", "int", "", ";", 32},
		{"fn f() { print ", "\n*(", "1", ")", "; }", 15},
		{"fn f() { print *", "\n(*", "1", ")", "; }", 15},
		{"fn f() { print ", "f(*\n(", "1", "))", "; }", 10},
		{"fn f() { print f(1, ", "1 + \n(", "1", ")", "); }", 30},
		{"fn f() { while 1 { if 2 { print ", "\n(", "1", ")", "; } } }", 29},
	} {
		deep := func(n int) string { return strings.Repeat(c.open, n) + c.mid + strings.Repeat(c.shut, n) }
		for _, src := range []string{c.before + deep(c.most) + c.after, c.before + deep(c.most-1) + c.after} {
			if _, e, line := front.Print(src); e != api.OK {
				t.Errorf("P25.4: %q: %d at %d", src, e, line)
			}
			if _, e, _ := front.Compile(src); e == api.ErrSource {
				t.Errorf("P25.1: %q: ErrSource", src)
			}
		}
		src := c.before + deep(c.most+1) + c.after
		if !strings.Contains(" *( (* f(*( ", " "+strings.ReplaceAll(c.open, "\n", "")+" ") {
			refusedAt(t, src, api.ErrSource, c.most+2)
		} else if _, e, _ := front.Compile(src); e != api.ErrSource {
			t.Errorf("P25.1: %q: %d", src, e)
		}
	}
}

// What is over stands in nothing any more: the same depth may come again.
func TestDeepAgain(t *testing.T) {
	stars, opens, shuts := strings.Repeat("*", 30), strings.Repeat("(", 30), strings.Repeat(")", 30)
	calls := strings.Repeat("f(", 30)
	for _, s := range []string{
		"fn f(a " + stars + "*int, b " + stars + "*int) " + stars + "**int, " + stars + "**int { var x " + stars + "*int = 1; var y " + stars + "*int = 2; }",
		"record r { a " + stars + "*int; b " + stars + "*r; } record s { a " + stars + "*int; } global g " + stars + "**int; global h " + stars + "**int; fn f() { }",
		"fn f() { print " + stars + "*x + " + stars + "*y < " + stars + "*z; " + stars + "*x = " + stars + "*y; print " + opens + "(1" + shuts + "); }",
		"fn f() { " + stars + "*x = " + opens + "(1" + shuts + ") + " + opens + "(2" + shuts + "); " + stars + "*x = 1; }",
		"fn f() { print " + calls + "f(" + shuts + ") + " + calls + "f(" + shuts + "); " + calls + "f(" + shuts + "); }",
		"fn f() { f(" + stars + "x, " + stars + "y, new " + stars + "int, null " + stars + "int, " + opens + "1" + shuts + ", " + stars + "z); }",
		"fn f() { print null " + stars + "*int == null " + stars + "*int; print new " + stars + "*r == new " + stars + "*r; return null " + stars + "*int, new " + stars + "*int; }",
		"fn f() { " + repeated("if 1 { ", 31) + strings.Repeat("} ", 31) + repeated("while 1 { ", 31) + strings.Repeat("} ", 31) + "}",
		"fn f() { if " + opens + "(1" + shuts + ") { print " + opens + "1" + shuts + "; } else { print " + opens + "1" + shuts + "; } while " + stars + "*x { x = " + stars + "x; } }",
		"fn f() { " + opens + "(x" + shuts + ").f = " + opens + "(x" + shuts + "); (" + stars + "x).f.g = " + stars + "*x; }",
		"fn f() { x, y = f(" + stars + "x, " + stars + "y); " + stars + "f(1).v = 2; }",
	} {
		if _, e, line := front.Print(s); e != api.OK {
			t.Errorf("P25.4: %q: %d at %d", s, e, line)
		}
		if _, e, _ := front.Compile(s); e == api.ErrSource {
			t.Errorf("P25.1: %q: ErrSource", s)
		}
	}
}
