package front_test

import (
	"slices"
	"strings"
	"testing"

	"fugue/api"
	"fugue/front"
)

// prints: Print answers that text, and of that text again.
func prints(t *testing.T, what, src, want string) {
	t.Helper()
	for _, s := range []string{src, want} {
		if text, e, line := front.Print(s); text != want || e != api.OK || line != 0 {
			t.Errorf("P25.4: %s: Print(%q):\n%s%d at %d, want\n%s", what, s, text, e, line, want)
			return
		}
	}
}

func TestPrint(t *testing.T) {
	for _, c := range []struct{ what, src, want string }{
		{"nothing", "", ""},
		{"comments alone", " # a\n# b", ""},
		{"records", "record r{}record s{v int;next*s;far***r;}", "record r {\n}\nrecord s {\n  v int;\n  next *s;\n  far ***r;\n}\n"},
		{"globals", "global g int;global h**r;", "global g int;\nglobal h **r;\n"},
		{"heads", "fn a(){}fn b(n int){}fn c(n int,p*int,q**r)int{}fn d()int,*r,**int{}", "fn a() {\n}\nfn b(n int) {\n}\nfn c(n int, p *int, q **r) int {\n}\nfn d() int, *r, **int {\n}\n"},
		{"their order", "fn f(){}global g int;record r{}fn h(){}record s{}global k int;", "fn f() {\n}\nglobal g int;\nrecord r {\n}\nfn h() {\n}\nrecord s {\n}\nglobal k int;\n"},
		{"comments", "# a\nfn f() { # b\n print 1; # c\n } # d", "fn f() {\n  print 1;\n}\n"},
		{"lines", "fn\nf\n(\n)\n{\nprint\n1\n+\n2\n;\n\n\n}\n\n", "fn f() {\n  print 1 + 2;\n}\n"},
		{"statements", "fn f(){var x int=1;var p**r=2;print x;return;return 1;return 1,(2),x;f();f(1,2);a,b=f();a,b,c=f(x);x=1;x.y=2;x.y.z=3;*x=4;**x=5;}",
			"fn f() {\n  var x int = 1;\n  var p **r = 2;\n  print x;\n  return;\n  return 1;\n  return 1, 2, x;\n  f();\n  f(1, 2);\n  a, b = f();\n  a, b, c = f(x);\n  x = 1;\n  x.y = 2;\n  x.y.z = 3;\n  *x = 4;\n  **x = 5;\n}\n"},
		{"blocks", "fn f(){if 1{}if 1{print 1;}if 1{}else{}if 1{print 1;}else{print 2;print 3;}while 0{}while 1{if 2{while 3{print 4;}print 5;}else{if 6{}}print 7;}}",
			"fn f() {\n  if 1 {\n  }\n  if 1 {\n    print 1;\n  }\n  if 1 {\n  } else {\n  }\n  if 1 {\n    print 1;\n  } else {\n    print 2;\n    print 3;\n  }\n  while 0 {\n  }\n  while 1 {\n    if 2 {\n      while 3 {\n        print 4;\n      }\n      print 5;\n    } else {\n      if 6 {\n      }\n    }\n    print 7;\n  }\n}\n"},
		{"names and types are not asked", "record r{v*s;v int;}record r{}global g*t;fn f(p*u,p int){x=null int;var y*z=*1;print 1+new r;return 5;nosuch(&g);a,a=b();1.f=2;}",
			"record r {\n  v *s;\n  v int;\n}\nrecord r {\n}\nglobal g *t;\nfn f(p *u, p int) {\n  x = null int;\n  var y *z = *1;\n  print 1 + new r;\n  return 5;\n  nosuch(&g);\n  a, a = b();\n  1.f = 2;\n}\n"},
		{"no function", "global g int;", "global g int;\n"},
	} {
		prints(t, c.what, c.src, c.want)
	}
}

func TestPrintExpressions(t *testing.T) {
	for _, c := range []struct{ src, want string }{
		{"0", "0"}, {"-7", "-7"}, {"-9223372036854775808", "-9223372036854775808"}, {"x", "x"}, {"&x", "&x"}, {"new int", "new int"}, {"new**r", "new **r"}, {"null*r", "null *r"}, {"null int", "null int"},
		{"*x", "*x"}, {"***x", "***x"}, {"*&x", "*&x"}, {"*new int", "*new int"}, {"*null*int", "*null *int"}, {"x.y.z", "x.y.z"}, {"5.f", "5.f"}, {"*x.y", "*x.y"},
		{"f()", "f()"}, {"f(1,x,f(2))", "f(1, x, f(2))"}, {"f ( 1 < 2 , 3 == 4 )", "f(1 < 2, 3 == 4)"}, {"f(*x,&y,new r)", "f(*x, &y, new r)"},
		{"1+2", "1 + 2"}, {"1+-2", "1 + -2"}, {"1<2", "1 < 2"}, {"1==2", "1 == 2"}, {"*x+*y", "*x + *y"}, {"&x==&y", "&x == &y"}, {"1<-1", "1 < -1"}, {"new*int==null**int", "new *int == null **int"},
		// What needs none.
		{"(1)", "1"}, {"((x))", "x"}, {"(1+2)", "1 + 2"}, {"(1<2)", "1 < 2"}, {"(1+2)+3", "1 + 2 + 3"}, {"((1+2)+3)+4", "1 + 2 + 3 + 4"}, {"(1)+(2)", "1 + 2"}, {"(1+2)<(3+4)", "1 + 2 < 3 + 4"}, {"(1)==(2)", "1 == 2"},
		{"*(x)", "*x"}, {"*(*x)", "**x"}, {"*(x.y)", "*x.y"}, {"*(&x)", "*&x"}, {"*(new int)", "*new int"}, {"*(null*int)", "*null *int"}, {"*(f(1))", "*f(1)"}, {"*(5)", "*5"}, {"*(-5)", "*-5"}, {"(*x)+1", "*x + 1"}, {"1+(*x)", "1 + *x"}, {"1+(&x)", "1 + &x"}, {"1+(new int)", "1 + new int"}, {"(new int)+1", "new int + 1"}, {"(null*int)==p", "null *int == p"}, {"p==(null*int)", "p == null *int"}, {"1+(x.y)", "1 + x.y"}, {"1+(f(1))", "1 + f(1)"}, {"1+(-2)", "1 + -2"}, {"(-1)+2", "-1 + 2"}, {"1<(-2)", "1 < -2"},
		{"(x).y", "x.y"}, {"(x.y).z", "x.y.z"}, {"(f(1)).y", "f(1).y"}, {"(5).f", "5.f"}, {"(-5).f", "-5.f"}, {"((x)).y.z", "x.y.z"}, {"f((1),(1+2),((3<4)))", "f(1, 1 + 2, 3 < 4)"}, {"(f)", "f"},
		// What needs them.
		{"1+(2+3)", "1 + (2 + 3)"}, {"1+(2+(3+4))", "1 + (2 + (3 + 4))"}, {"(1+(2+3))+4", "1 + (2 + 3) + 4"}, {"1+((2))+((3+4))", "1 + 2 + (3 + 4)"}, {"(1<2)<3", "(1 < 2) < 3"}, {"1<(2<3)", "1 < (2 < 3)"}, {"(1==2)==(3<4)", "(1 == 2) == (3 < 4)"}, {"(1<2)+3", "(1 < 2) + 3"}, {"1+(2<3)", "1 + (2 < 3)"}, {"1+(2==3)+4", "1 + (2 == 3) + 4"},
		{"*(1+2)", "*(1 + 2)"}, {"*(1<2)", "*(1 < 2)"}, {"*((1==2))", "*(1 == 2)"}, {"**(1+2)", "**(1 + 2)"}, {"(*x).y", "(*x).y"}, {"(**x).y", "(**x).y"}, {"((*x).y).z", "(*x).y.z"}, {"(&x).y", "(&x).y"}, {"(new r).y", "(new r).y"}, {"(null*r).y", "(null *r).y"}, {"(1+2).y", "(1 + 2).y"}, {"(1<2).y", "(1 < 2).y"}, {"*(*x).y", "*(*x).y"}, {"(*(x).y).z", "(*x.y).z"}, {"((*x)).y", "(*x).y"}, {"(*(1+2)).y", "(*(1 + 2)).y"}, {"((1+2)).y", "(1 + 2).y"},
	} {
		prints(t, "a print", "fn f(){print "+c.src+";}", "fn f() {\n  print "+c.want+";\n}\n")
		prints(t, "a var", "fn f(){var x int="+c.src+";}", "fn f() {\n  var x int = "+c.want+";\n}\n")
		prints(t, "a return", "fn f(){return "+c.src+","+c.src+";}", "fn f() {\n  return "+c.want+", "+c.want+";\n}\n")
		prints(t, "an if", "fn f(){if "+c.src+"{}}", "fn f() {\n  if "+c.want+" {\n  }\n}\n")
		prints(t, "a while", "fn f(){while("+c.src+"){}}", "fn f() {\n  while "+c.want+" {\n  }\n}\n")
		prints(t, "a set", "fn f(){x="+c.src+";*x="+c.src+";x.y="+c.src+";}", "fn f() {\n  x = "+c.want+";\n  *x = "+c.want+";\n  x.y = "+c.want+";\n}\n")
		prints(t, "an argument", "fn f(){f("+c.src+");x,y=g(1,"+c.src+");}", "fn f() {\n  f("+c.want+");\n  x, y = g(1, "+c.want+");\n}\n")
	}
	for _, c := range []struct{ src, want string }{
		{"(x).y=1", "x.y = 1"}, {"(x.y).z=1", "x.y.z = 1"}, {"(f(1)).y=1", "f(1).y = 1"}, {"(5).y=1", "5.y = 1"}, {"(*x).y=1", "(*x).y = 1"}, {"((*x)).y.z=1", "(*x).y.z = 1"}, {"(&x).y=1", "(&x).y = 1"}, {"(new r).y=1", "(new r).y = 1"}, {"(1+2).y=1", "(1 + 2).y = 1"}, {"(1<2).y=1", "(1 < 2).y = 1"},
		{"*(x)=1", "*x = 1"}, {"*(*x)=1", "**x = 1"}, {"*(x.y)=1", "*x.y = 1"}, {"*(x).y=1", "*x.y = 1"}, {"*(*x).y=1", "*(*x).y = 1"}, {"*(&x)=1", "*&x = 1"}, {"*(1+2)=1", "*(1 + 2) = 1"}, {"*(1==2)=1", "*(1 == 2) = 1"}, {"*(new int)=1", "*new int = 1"}, {"*(null*int)=1", "*null *int = 1"}, {"*(f())=1", "*f() = 1"}, {"*(-1)=1", "*-1 = 1"},
	} {
		prints(t, "a place", "fn f(){"+c.src+";}", "fn f() {\n  "+c.want+";\n}\n")
	}
}

// Without any of the brackets that Print leaves the text is read otherwise, or not at all; with more around what stands in it, it is the same.
func TestJustTheBrackets(t *testing.T) {
	short := []*expr{num(1), {op: "name", word: "x"}, {op: "&", word: "x"}, {op: "new", word: "r"}, {op: "null", word: "*r"}}
	level := short
	for range 2 {
		var more []*expr
		for _, a := range level {
			more = append(more, &expr{op: "*", sub: []*expr{a}}, &expr{op: ".", word: "f", sub: []*expr{a}}, &expr{op: "call", word: "g", sub: []*expr{a}})
			for _, op := range []string{"+", "<", "=="} {
				for _, b := range short[1:] {
					more = append(more, &expr{op: op, sub: []*expr{a, b}}, &expr{op: op, sub: []*expr{b, a}})
				}
			}
		}
		level = append(slices.Clone(short), more...)
	}
	left := 0
	for _, e := range level {
		for _, s := range []*stmt{{op: "print", sub: []*expr{e}}, {op: ".", word: "f", sub: []*expr{e, num(1)}}, {op: "*", sub: []*expr{e, num(1)}}} {
			of := &tree{all: []any{&fnOf{name: "main", body: []*stmt{s}}}}
			tokens := tokensOfTree(of, nil)
			want := laidOut(tokens)
			prints(t, "an expression", strings.Join(tokens, " "), want)
			for at, token := range tokens {
				if token != "(" || at == 2 || kindOf(tokens[at-1]) == "NAME" {
					continue
				}
				left++
				less := slices.Delete(slices.Clone(tokens), closing(tokens, at), closing(tokens, at)+1)
				less = slices.Delete(less, at, at+1)
				if text, e, _ := front.Print(strings.Join(less, " ")); e == api.OK && text == want {
					t.Fatalf("P25.4: %q: brackets that are not needed", want)
				}
			}
		}
		if t.Failed() {
			return
		}
	}
	if left < 5000 {
		t.Errorf("only %d brackets", left)
	}
}

// closing: where the bracket is shut that opens there.
func closing(tokens []string, at int) int {
	for open := 0; ; at++ {
		switch tokens[at] {
		case "(":
			open++
		case ")":
			open--
		}
		if open == 0 {
			return at
		}
	}
}
