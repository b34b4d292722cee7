package front_test

import (
	"math"
	"testing"

	"fugue/api"
	"fugue/front"
)

// meaning: a source, what it prints and gives, how it ends, and in how many steps.
type meaning struct {
	what, src       string
	args            []int
	prints, results string
	end, steps      int
}

// holds: the run has that trace with just enough fuel and with more, a beginning of it with less; and its program does the same.
func (m meaning) holds(t *testing.T) {
	t.Helper()
	want := api.Trace{Prints: values(m.prints), Results: values(m.results), End: m.end, Steps: m.steps}
	p := taken(t, m.what, m.src)
	for _, fuel := range []int{m.steps, m.steps + 1, m.steps + 1000, math.MaxInt} {
		if trace, e := front.Run(m.src, fuel, m.args...); e != api.OK || !alike(trace, want) {
			t.Errorf("P25.2: %s: %q with %d: %+v, %d, want %+v", m.what, m.src, fuel, trace, e, want)
			return
		}
	}
	var last api.Trace
	for fuel := -2; max(fuel, 0) < m.steps; fuel++ {
		trace, e := front.Run(m.src, fuel, m.args...)
		if e != api.OK || trace.End != api.Fuel || trace.Steps != max(fuel, 0) || len(trace.Results) > 0 || !begins(trace.Prints, want.Prints) || !begins(last.Prints, trace.Prints) {
			t.Errorf("P25.2: %s: %q with %d: %+v, %d", m.what, m.src, fuel, trace, e)
			return
		}
		last = trace
	}
	if t.Failed() {
		return
	}
	for fuel := range m.steps + 2 {
		keeps(t, m.src, p, fuel, m.args)
	}
}

func TestStatements(t *testing.T) {
	for _, m := range []meaning{
		{"nothing", "fn main() { }", nil, "", "", api.Done, 0},
		{"a var", "fn main() { var x int = 5; print x; }", nil, "5", "", api.Done, 4},
		{"a print", "fn main() { print 7; print -7; }", nil, "7 -7", "", api.Done, 4},
		{"a return", "fn main() { print 1; return; print 2; }", nil, "1", "", api.Done, 3},
		{"a return of results", "fn main() int, *int, int { return 1, null *int, 3; }", nil, "", "1 nil 3", api.Done, 4},
		{"a return in a block", "fn main() int { while 1 { if 1 { return 5; } } return 6; }", nil, "", "5", api.Done, 6},
		{"a return in an else", "fn main() int { if 0 { } else { return 5; } return 6; }", nil, "", "5", api.Done, 4},
		{"an if that is", "fn main() { if 1 { print 1; } print 2; }", nil, "1 2", "", api.Done, 6},
		{"an if that is not", "fn main() { if 0 { print 1; } print 2; }", nil, "2", "", api.Done, 4},
		{"an if and its else", "fn main() { if 1 { print 1; } else { print 2; } if 0 { print 3; } else { print 4; } print 5; }", nil, "1 4 5", "", api.Done, 10},
		{"an empty else", "fn main() { if 0 { print 1; } else { } if 1 { } else { print 2; } }", nil, "", "", api.Done, 4},
		{"an if by what is not 1", "fn main() { if -1 { print 1; } if 2 { print 2; } if -9223372036854775808 { print 3; } }", nil, "1 2 3", "", api.Done, 12},
		{"an if by a pointer", "fn main() { if null *int { print 1; } if new int { print 2; } var p *int = null *int; if &p { print 3; } if p { print 4; } }", nil, "2 3", "", api.Done, 14},
		{"ifs within ifs", "fn main(n int) { if n { if n + -1 { print 1; } else { print 2; } } else { if 1 { print 3; } } }", []int{1}, "2", "", api.Done, 8},
		{"a while that is not", "fn main() { while 0 { print 1; } print 2; }", nil, "2", "", api.Done, 4},
		{"a while", "fn main(n int) { while n { print n; n = n + -1; } print 9; }", []int{2}, "2 1 9", "", api.Done, 1 + 1 + 2*(2+4) + 2*2 + 2},
		{"a while by a pointer", "record r { next *r; } fn main() { var p *r = new r; p.next = new r; while p { print 1; p = p.next; } }", nil, "1 1", "", api.Done, 2 + 3 + 1 + 3*1 + 2*(2+3) + 2},
		{"whiles within whiles", "fn main() { var i int = 2; while i { var j int = i; while j { print j; j = j + -1; } i = i + -1; } }", nil, "2 1 1", "", api.Done, 2 + (1 + 3 + 2) + (2 + (1 + 3 + 2) + 2*6 + 4) + (2 + (1 + 2 + 1) + 6 + 4)},
		{"a call", "fn main() { f(); f(); } fn f() { print 1; }", nil, "1 1", "", api.Done, 8},
		{"a call of a function with results", "fn main() { f(); print 2; } fn f() int, *int { print 1; return 1, null *int; }", nil, "1 2", "", api.Done, 9},
		{"a name is set", "fn main(n int) { n = 3; print n; var x int = n; x = x + x; print x; print n; }", []int{1}, "3 6 3", "", api.Done, 2 + 2 + 2 + 4 + 2 + 2},
		{"a global is set", "global g int; global h *int; fn main() { print g; print h; g = 5; h = new int; print g; print h; print *h; }", nil, "0 nil 5 ptr 0", "", api.Done, 2 + 2 + 2 + 2 + 2 + 2 + 3},
		{"several are set", "fn main() { var x int = 1; var y int = 2; x, y = f(y, x); print x; print y; } fn f(a int, b int) int, int { return a, b; }", nil, "2 1", "", api.Done, 4 + 4 + 3 + 4},
		{"one that stands twice", "global g int; fn main() { var x int = 1; x, x = f(); print x; g, x, g = h(); print g; print x; } fn f() int, int { return 5, 6; } fn h() int, int, int { return 7, 8, 9; }", nil, "6 9 8", "", api.Done, 2 + 2 + 3 + 2 + 2 + 4 + 2 + 2},
		{"variables and globals among several", "global g int; global h *int; fn main() { var p *int = null *int; var x int = 0; g, p, x, h = f(); print g; print *p; print x; print *h; } fn f() int, *int, int, *int { var a int = 2; var b int = 4; return 1, &a, 3, &b; }", nil, "1 2 3 4", "", api.Done, 4 + 2 + 4 + 5 + 2 + 3 + 2 + 3},
		{"what stands behind a return", "fn main() int { return 1; main(); return 2; }", nil, "", "1", api.Done, 2},
	} {
		m.holds(t)
	}
}

func TestExpressions(t *testing.T) {
	for _, m := range []meaning{
		{"numbers", "fn main() int, int, int { return 0, 9223372036854775807, -9223372036854775808; }", nil, "", "0 9223372036854775807 -9223372036854775808", api.Done, 4},
		{"arguments", "fn main(a int, b int) int, int { return b, a; }", []int{math.MinInt, math.MaxInt}, "", "9223372036854775807 -9223372036854775808", api.Done, 3},
		{"sums", "fn main() { print 1 + 2; print 1 + 2 + 3; print 1 + (2 + 3); print -1 + 1; }", nil, "3 6 6 0", "", api.Done, 4 + 6 + 6 + 4},
		{"sums wrap", "fn main(a int, b int) { print a + 1; print b + -1; print a + a; print b + b; print a + b; }", []int{math.MaxInt, math.MinInt}, "-9223372036854775808 9223372036854775807 -2 0 -1", "", api.Done, 20},
		{"less than", "fn main() { print 1 < 2; print 2 < 1; print 1 < 1; print -1 < 0; print 0 < -1; print -9223372036854775808 < 9223372036854775807; }", nil, "1 0 0 1 0 1", "", api.Done, 24},
		{"less than, and sums", "fn main() { print 1 + 1 < 3; print 1 < 0 + 1; print (1 < 2) + (3 < 4); print (1 < 2) < 2; }", nil, "1 0 2 1", "", api.Done, 6 + 6 + 8 + 6},
		{"the same of ints", "fn main() { print 1 == 1; print 1 == 2; print 0 == 0; print -1 == 1; print 1 + 1 == 2; print (1 == 1) == 1; }", nil, "1 0 1 0 1 1", "", api.Done, 4*4 + 6 + 6},
		{"the same of pointers", "fn main() { var x int = 1; var y int = 1; print &x == &x; print &x == &y; print new int == new int; print null *int == null *int; print null *int == &x; print &x == null *int; var p *int = new int; print p == p; }", nil, "1 0 0 1 0 0 1", "", api.Done, 4 + 6*4 + 2 + 4},
		{"the same of pointers to records", "record e { } record r { v int; w int; } fn main() { var p *e = new e; var q *e = p; print p == q; print p == new e; print new e == new e; var s *r = new r; print s == s; print s == new r; print null *r == s; }", nil, "1 0 0 1 0 0", "", api.Done, 4 + 12 + 2 + 12},
		{"pointers to pointers", "fn main() { var p **int = new *int; print *p; *p = new int; **p = 5; print **p; var q *int = *p; *q = 6; print **p; print *p == q; print p == &q; }", nil, "nil 5 6 1 0", "", api.Done, 2 + 3 + 3 + 4 + 4 + 3 + 3 + 4 + 5 + 4},
		{"new ints and pointers", "fn main() { print *new int; print *new *int; print **new *int; }", nil, "0 nil", "", api.Nils, 3 + 3 + 4},
		{"new records", "record r { a int; b *int; c *r; d int; } fn main() { var p *r = new r; print p.a; print p.b; print p.c; print p.d; print p.a == 0; print p.a + p.d; print p.a < 1; if p.a { print 9; } if p.b { print 8; } p.d = p.a; print p.d; }", nil, "0 nil nil 0 1 0 1 0", "", api.Done, 2 + 4*3 + 5 + 6 + 5 + 3 + 3 + 4 + 3},
		{"all fields", "record r { a int; b int; c int; d int; e int; f int; g int; h *r; } fn main() { var p *r = new r; p.a = 1; p.b = 2; p.c = 3; p.d = 4; p.e = 5; p.f = 6; p.g = 7; p.h = p; print p.h.a; print p.b; print p.c; print p.d; print p.e; print p.f; print p.h.h.g; print p.h == p; }", nil, "1 2 3 4 5 6 7 1", "", api.Done, 2 + 8*3 + 4 + 5*3 + 5 + 5},
		{"null", "fn main() *int, **int { print null *int; print null **int == null **int; return null *int, null **int; }", nil, "nil 1", "nil nil", api.Done, 2 + 4 + 3},
		{"addresses", "fn main(n int) { var p *int = &n; *p = 5; print n; var q **int = &p; print **q; **q = 6; print n; print *q == p; print *&n; *&n = 7; print *p; }", []int{1}, "5 5 6 1 6 7", "", api.Done, 2 + 3 + 2 + 2 + 4 + 4 + 2 + 5 + 3 + 3 + 3},
		{"a var in a loop is one cell", "fn main() { var i int = 3; var q *int = null *int; while i { var x int = i; if q { print *q; } q = &x; i = i + -1; } print *q; }", nil, "2 1 1", "", api.Done, 2 + 2 + 1 + 3*(1+2+2+2+4) + 2*3 + 3 + 1 + 3},
		{"a frame's variables are its own", "fn main() { var p *int = f(); var q *int = f(); *p = 4; print *p; print *q; print p == q; } fn f() *int { var x int = 3; return &x; }", nil, "4 3 0", "", api.Done, 2 + 4 + 2 + 4 + 3 + 3 + 3 + 4},
		{"parameters are the callee's own", "fn main(n int) { print f(n); print n; } fn f(n int) int { n = n + 1; return n; }", []int{1}, "2 1", "", api.Done, 3 + 4 + 2 + 2},
		{"a call's result", "fn main() { print f() + f(); print g(f(), 2) == null *int; } fn f() int { return 4; } fn g(a int, b int) *int { print a; print b; return new int; }", nil, "8 4 2 0", "", api.Done, 2 + 2*3 + 2 + 1 + 3 + 1 + 6 + 1},
		{"brackets are no steps", "record r { v int; } fn main() { print (((1))) + ((2)); print (1 + 2) + 3; print *((new int)); if (1) { } (new r).v = ((1)); }", nil, "3 6 0", "", api.Done, 4 + 6 + 3 + 2 + 3},
		{"a field of a call, of a bracket, of a star", "record r { v int; next *r; } fn main() { var p *r = f(); f().v = 3; (*&p).v = 4; print (*&p).v; print f().v; print (new r).v; (new r).v = 9; } fn f() *r { return new r; }", nil, "4 0 0", "", api.Done, 2 + 2 + 3 + 2 + 4 + 4 + 3 + 2 + 3 + 3},
		{"globals between calls", "global g int; fn main(n int) { g = g + 1; print g; if n { main(n + -1); } }", []int{2}, "1 2 3", "", api.Done, 3*(4+2+2) + 2*5},
		{"globals of each kind", "record r { v int; } global a int; global b *int; global c *r; global d **int; fn main() { print a; print b; print c; print d; print a == 0; print a + a; print a < 1; print c == null *r; if a { print 1; } if b { print 2; } a = a; print a; f(); print a; print b == null *int; print c.v; } fn f() { a = 7; b = new int; c = new r; c.v = a; }", nil, "0 nil nil nil 1 0 1 1 0 7 0 7", "", api.Done, 4*2 + 4*4 + 2*2 + 2 + 2 + (2 + 2 + 2 + 2 + 3) + 2 + 4 + 3},
	} {
		m.holds(t)
	}
}

// Everything goes from left to right, and what was read stays as it was.
func TestFromLeftToRight(t *testing.T) {
	const more = " fn p(n int) int { print n; return n; } fn put(to *int, n int) int { *to = n; return n; } fn node(n int) *r { print n; return new r; } fn no(n int) *r { print n; return null *r; } fn q(n int) *int { print n; return null *int; } record r { v int; next *r; } global g int; fn setg(n int) int { g = n; return 100; }"
	for _, m := range []meaning{
		{"a sum", "fn main() { print p(1) + p(2) + p(3); }", nil, "1 2 3 6", "", api.Done, 3 + 3*(2+4)},
		{"a sum in brackets", "fn main() { print p(1) + (p(2) + p(3)); }", nil, "1 2 3 6", "", api.Done, 3 + 3*6},
		{"what stands to each other", "fn main() { print p(2) < p(1); print p(1) == p(1); }", nil, "2 1 0 1 1 1", "", api.Done, 2 + 12 + 2 + 12},
		{"arguments", "fn main() { f(p(1), p(2), p(3)); } fn f(a int, b int, c int) { print c; print b; print a; }", nil, "1 2 3 3 2 1", "", api.Done, 2 + 18 + 6},
		{"results", "fn main() int, int { return p(1), p(2); }", nil, "1 2", "1 2", api.Done, 1 + 12},
		{"a field is set: its place first", "fn main() { node(1).v = p(2); print 3; }", nil, "1 2 3", "", api.Done, 1 + 2 + 4 + 6 + 2},
		{"a field of null is set: the value comes first", "fn main() { no(1).v = p(2); print 3; }", nil, "1 2", "", api.Nils, 1 + 2 + 4 + 6},
		{"what null points to is set: the value comes first", "fn main() { *q(1) = p(2); print 3; }", nil, "1 2", "", api.Nils, 1 + 2 + 4 + 6},
		{"a place that is not there: no value", "fn main() { no(1).next.v = p(2); }", nil, "1", "", api.Nils, 1 + 3 + 4},
		{"a star that is not there: no value", "fn main() { var x **int = null **int; **x = p(2); }", nil, "", "", api.Nils, 2 + 3},
		{"an operand that is not there", "fn main() { print *q(1) + p(2); }", nil, "1", "", api.Nils, 1 + 1 + 3 + 4},
		{"an argument that is not there", "fn main() { p(*q(1)); }", nil, "1", "", api.Nils, 2 + 3 + 4},
		{"a variable that a call sets is read ahead of it", "fn main() { var x int = 1; print x + put(&x, 5); print x; }", nil, "6 5", "", api.Done, 2 + 6 + 5 + 2},
		{"and behind it", "fn main() { var x int = 1; print put(&x, 5) + x; }", nil, "10", "", api.Done, 2 + 6 + 5},
		{"a global that a call sets", "fn main() { g = 1; print g + setg(7) + g; }", nil, "108", "", api.Done, 2 + 1 + 2 + 1 + 2 + 2 + 2 + 1},
		{"a field that a call sets", "fn main() { var n *r = new r; print n.v + f(n) + n.v; } fn f(n *r) int { n.v = 5; return 10; }", nil, "15", "", api.Done, 2 + 1 + 2 + 2 + 2 + 3 + 2 + 2},
		{"an argument that another one sets", "fn main() { var x int = 1; f(x, put(&x, 2), x); } fn f(a int, b int, c int) { print a; print b; print c; }", nil, "1 2 2", "", api.Done, 2 + (2 + 1 + 3 + 5 + 1) + 6},
		{"a result that another one sets", "fn main() int, int, int { var x int = 1; return x, put(&x, 2), x; }", nil, "", "1 2 2", api.Done, 2 + 1 + 1 + 8 + 1},
		{"a name is set behind its value", "fn main() { var x int = 1; x = put(&x, 5) + x; print x; }", nil, "10", "", api.Done, 2 + 1 + 1 + 8 + 1 + 2},
		{"a var is set behind its value", "fn main() { var i int = 2; while i { var x int = i + put(&i, i + -1); print x; } }", nil, "3 1", "", api.Done, 2 + 1 + 2*(1+8+5+2+1) + 1},
		{"the place is what it was, though its value sets it", "fn main() { var a *r = new r; var b *r = a; a.v = f(&a); print a.v; print b.v; } fn f(a **r) int { *a = new r; return 6; }", nil, "0 6", "", api.Done, 4 + 2 + 2 + 5 + 3 + 3},
		{"several are set in their order", "global h *r; fn main() { var x int = 0; x, g, x = f(); print x; print g; } fn f() int, int, int { return p(1), p(2), p(3); }", nil, "1 2 3 3 2", "", api.Done, 2 + 2 + 1 + 18 + 4},
		{"null ends all calls", "fn main() { print 1; f(); print 2; } fn f() { while 1 { no2(); } } fn no2() { print *q(3); }", nil, "1 3", "", api.Nils, 2 + 2 + 2 + 2 + 2 + 2 + 4},
	} {
		m.src += more
		m.holds(t)
	}
}
