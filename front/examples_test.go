package front_test

import (
	"testing"

	"fugue/api"
	"fugue/front"
)

// The chapter's examples.
func TestExamples(t *testing.T) {
	for _, m := range []meaning{
		{"1", "fn main(n int) int { var s int = 0; while 0 < n { s = s + n; n = n + -1; } return s; }", []int{4}, "", "10", api.Done, 2 + 1 + 5*3 + 4*8 + 4 + 2},
		{"2", "record cell { v int; next *cell; } fn main() { var p *cell = new cell; p.next = new cell; p.next.v = 7; print p.next.v; print p.next.next == null *cell; print p.next.next.v; }", nil, "7 1", "", api.Nils, 2 + 3 + 4 + 4 + 6 + 5},
		{"3", "fn main() { var x int = 1; var p *int = &x; *p = x + 1; print x; }", nil, "2", "", api.Done, 2 + 2 + 5 + 2},
		{"5, the first", "global g int; fn main(n int) { g = g + 1; print g; if n { main(n + -1); } }", []int{2}, "1 2 3", "", api.Done, 3*8 + 2*5},
		{"5, the second", "fn main() { var x int = 0; x, x = two(); print x; } fn two() int, int { return 1, 2; }", nil, "2", "", api.Done, 2 + 2 + 3 + 2},
		{"5, the second with two ahead", "fn two() int, int { return 1, 2; } fn main() { var x int = 0; x, x = two(); print x; }", nil, "", "1 2", api.Done, 3},
		{"5, the third", "fn main() { print g; } global g int;", nil, "0", "", api.Done, 2},
		{"6", "fn main() { var i int = 2; var q *int = null *int; while i { var x int = i; if q { print *q; } q = &x; i = i + -1; } print *q; }", nil, "1 1", "", api.Done, 2 + 2 + 1 + (1 + 2 + 2 + 2 + 4) + (2 + 2 + 5 + 2 + 4) + 2 + 3},
		{"7, the first", "fn main() { f(); } fn f() { }", nil, "", "", api.Done, 2},
		{"7, the second", "fn main() { var x int = 1; var p *int = &x; }", nil, "", "", api.Done, 4},
		{"7, the third", "record c { v int; } fn main() { var p *c = new c; p.v = 1; }", nil, "", "", api.Done, 5},
		{"7, the fourth", "fn main() { while 0 { } }", nil, "", "", api.Done, 2},
	} {
		m.holds(t)
	}
	for _, c := range []struct {
		err api.Errno
		src string
	}{
		{api.ErrName, "fn main() { @x@ = 1; }"},
		{api.ErrType, "fn main() { var x int = @null@ *int; }"},
		{api.ErrType, "fn main() { @return@ 1; }"},
		{api.ErrType, "fn @main@(p *int) { }"},
		{api.ErrName, "@"},
		{api.ErrSource, "fn main() { var x int = 1 @}@"},
		{api.ErrSource, "fn main(n int) { print n @-1@; }"},
		{api.ErrSource, "fn f() { } fn main() { (f)@(@); }"},
		{api.ErrName, "fn main() { print @f@(1, 2); }"},
		{api.ErrType, "fn f(a int) int { return a; } fn main() { print @f@(y, 2); }"},
	} {
		refused(t, "the chapter's example", c.err, c.src)
	}
	if trace, e := front.Run("fn main() { var x int = 1; var p *int = &x; }", 3); e != api.OK || trace.End != api.Fuel || trace.Steps != 3 {
		t.Errorf("P25.2: %+v, %d", trace, e)
	}
	prints(t, "the chapter's example", "fn f() { print 1 + (2 + 3); print (1 + 2) + 3; }", "fn f() {\n  print 1 + (2 + 3);\n  print 1 + 2 + 3;\n}\n")
}
