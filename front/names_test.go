package front_test

import (
	"testing"

	"fugue/api"
)

// ruled: a source, and what Compile tells of it.
type ruled struct {
	what string
	err  api.Errno
	src  string
}

func rightOrRefused(t *testing.T, l []ruled) {
	t.Helper()
	for _, c := range l {
		if c.err == api.OK {
			taken(t, c.what, c.src)
		} else {
			refused(t, c.what, c.err, c.src)
		}
	}
}

// What P25.1 asks of names ahead of all blocks: the first in the source counts.
func TestHeads(t *testing.T) {
	rightOrRefused(t, []ruled{
		{"nothing", api.ErrName, "@"},
		{"no function", api.ErrName, "record r { } global g *r; @"},
		{"no function, blanks", api.ErrName, "# a@"},
		{"two records", api.ErrName, "record r { } record @r@ { } fn f() { }"},
		{"two records, others between", api.ErrName, "record r { } record s { } global g int; fn f() { } record @r@ { v int; }"},
		{"three records", api.ErrName, "record r { } record @r@ { } record r { } fn f() { }"},
		{"two globals", api.ErrName, "global g int; global @g@ int; fn f() { }"},
		{"two globals of two types", api.ErrName, "fn f() { } global g int; record r { } global @g@ *r;"},
		{"two functions", api.ErrName, "fn f() { } fn @f@() { }"},
		{"two functions of two heads", api.ErrName, "fn f() { } fn g() { } fn @f@(n int) int { }"},
		{"two fields", api.ErrName, "record r { v int; @v@ int; } fn f() { }"},
		{"two fields of two types", api.ErrName, "record r { v int; w int; @v@ *int; } fn f() { }"},
		{"the eighth field", api.ErrName, "record r { a int; b int; c int; d int; e int; f int; g int; @a@ int; } fn f() { }"},
		{"a field's type", api.ErrName, "record r { v *@s@; } fn f() { }"},
		{"a field's type behind stars", api.ErrName, "record r { w *r; v ***@s@; } fn f() { }"},
		{"a field's type that is a global's name", api.ErrName, "global s int; record r { v *@s@; } fn s() { }"},
		{"a global's type", api.ErrName, "global g *@s@; fn f() { }"},
		{"a global's type behind stars", api.ErrName, "global g **@s@; fn f() { }"},
		{"a parameter's type", api.ErrName, "fn f() { } fn g(a int, b *@s@) { }"},
		{"a parameter's type of the first function", api.ErrName, "fn f(a int, b *@s@) { }"},
		{"a result's type", api.ErrName, "fn f() *@s@ { }"},
		{"the last result's type", api.ErrName, "fn f() int, int, *int, **@s@ { }"},
		{"a parameter with a global's name", api.ErrName, "global g int; fn f(@g@ int) { }"},
		{"a parameter with the name of a global behind", api.ErrName, "fn f(a int, @g@ int) { } global g int;"},
		{"a parameter twice", api.ErrName, "fn f(a int, @a@ int) { }"},
		{"a parameter twice, of two types", api.ErrName, "fn f() { } fn g(a int, b int, @a@ *int) { }"},
		{"a parameter as its function's and a record's name", api.OK, "record r { } fn f(f int, r int) { }"},
		{"one name of each kind", api.OK, "record x { x int; } global y int; fn x() { } record y { x *x; y *y; } fn y() { }"},
		{"one field name in two records", api.OK, "record r { v int; } record s { v *r; } fn f() { }"},
		{"one parameter name in two functions", api.OK, "fn f(a int) { } fn g(a *int) { }"},
		{"names ahead of where they stand", api.OK, "global g *r; fn f(n int) *s { } record r { next *s; } record s { next *r; self **s; }"},

		{"the first in the source: a record's name", api.ErrName, "record r { } record @r@ { v *s; v *t; } fn f(f *u) { }"},
		{"the first in the source: a field's name", api.ErrName, "record r { v int; @v@ *s; } record r { }"},
		{"the first in the source: a field's type", api.ErrName, "record r { v *@s@; v int; } record r { }"},
		{"the first in the source: a field's type, then a global", api.ErrName, "record r { v *@s@; } global g int; global g *t;"},
		{"the first in the source: a global's name", api.ErrName, "global g int; global @g@ *t; record r { v *s; }"},
		{"the first in the source: a global's type", api.ErrName, "global g *@t@; global g int; record r { v *s; }"},
		{"the first in the source: a function's name", api.ErrName, "fn f() { } fn @f@(a *s, a int) *t { } record r { v int; v int; }"},
		{"the first in the source: a parameter's name", api.ErrName, "fn f(a int, @a@ *s, b *t) { } fn f() { }"},
		{"the first in the source: a parameter's type", api.ErrName, "fn f(a *@s@, a int) *t { }"},
		{"the first in the source: a result's type, then a parameter", api.ErrName, "fn f() *@t@ { } fn g(a int, a int) { }"},
		{"the first in the source: a global's name as a parameter", api.ErrName, "fn f(@g@ *s) { } global g int; global g int;"},
		{"the first in the source: the second function", api.ErrName, "fn f() { } fn g(a *@s@) { } record r { v *s; } global g *s;"},

		{"ahead of there being no function", api.ErrName, "record r { v *@s@; }"},
		{"ahead of the first function's parameters", api.ErrName, "fn f(p *int) { } fn g() *@s@ { }"},
		{"ahead of the first function's parameters: its own", api.ErrName, "fn f(p *@s@) { }"},
		{"ahead of all blocks", api.ErrName, "fn f() { x = 1; print null int; } record r { v *@s@; }"},
		{"behind ErrSource", api.ErrSource, "record r { } record r { } fn f(a int, a *s) { x = null int; @=@ }"},
		{"behind ErrSource at the end", api.ErrSource, "record r { } record r { @"},

		{"the first function's parameter", api.ErrType, "fn @f@(p *int) { }"},
		{"the first function's last parameter", api.ErrType, "record r { } fn @f@(a int, b int, p **r) { }"},
		{"the first function's parameter, others ahead", api.ErrType, "record f { } global f int; fn @main@(p *int) { } fn f(n int) { }"},
		{"the first function's parameter ahead of blocks", api.ErrType, "fn @f@(p *int) { x = 1; }"},
		{"another function's parameter", api.OK, "fn f(a int) { } fn g(p *int) { }"},
		{"the first function's results", api.OK, "record r { } fn f() *int, **r { }"},
	})
}

// A variable is seen from behind its declaration to the end of its block, and no other has its name.
func TestSeen(t *testing.T) {
	rightOrRefused(t, []ruled{
		{"a parameter", api.OK, "fn f(a int) { print a; if a { print a; } while a { a = 1; } return; print a; }"},
		{"a variable, in blocks behind it", api.OK, "fn f() { var x int = 1; if x { while x { if 0 { } else { print x; } } } print x; }"},
		{"a variable of a loop", api.OK, "fn f() { while 1 { var x int = 1; while x { var y int = x; print y; } print x; } }"},
		{"a global", api.OK, "fn f() { print g; g = 2; if g { g = g; } } fn h() { print g; } global g int;"},
		{"a variable as a record's, a function's, a field's name", api.OK, "record x { x int; } fn f(f int) { var x *x = new x; print x.x; print f; f(f); }"},
		{"one name in two functions", api.OK, "fn f() { var x int = 1; print x; } fn g() { var x *int = new int; print *x; }"},
		{"ahead of its declaration", api.ErrName, "fn f() { print @x@; var x int = 1; }"},
		{"in its declaration", api.ErrName, "fn f() { var x int = @x@; }"},
		{"deep in its declaration", api.ErrName, "fn f() { var x int = 1 + (2 + g(3, @x@)); } fn g(a int, b int) int { }"},
		{"its address in its declaration", api.ErrName, "fn f() { var x *int = &@x@; }"},
		{"ahead of its declaration in a loop", api.ErrName, "fn f() { while 1 { @x@ = 2; var x int = 1; } }"},
		{"behind its block", api.ErrName, "fn f() { if 1 { var x int = 1; } print @x@; }"},
		{"behind an else", api.ErrName, "fn f() { if 1 { } else { var x int = 1; } @x@ = 1; }"},
		{"in the else of its block", api.ErrName, "fn f() { if 1 { var x int = 1; } else { print @x@; } }"},
		{"behind a loop", api.ErrName, "fn f() { while 1 { var x int = 1; } print &@x@; }"},
		{"behind an inner block", api.ErrName, "fn f() { while 1 { if 1 { var x int = 1; } print @x@; } }"},
		{"an outer one behind an inner block", api.OK, "fn f() { var y int = 1; if 1 { var x int = y; } print y; if y { var z int = y; } print y; }"},
		{"another function's", api.ErrName, "fn f() { var x int = 1; } fn g() { print @x@; }"},
		{"another function's parameter", api.ErrName, "fn f(a int) { } fn g() { print @a@; }"},
		{"a record's or function's name", api.ErrName, "record r { r int; } fn f() { print @r@; }"},
		{"a function's name", api.ErrName, "fn f() { print @f@; }"},

		{"one name twice", api.ErrName, "fn f() { var x int = 1; var @x@ int = 1; }"},
		{"one name twice, of two types", api.ErrName, "fn f() { var x int = 1; var @x@ *int = new int; }"},
		{"one name in two blocks", api.ErrName, "fn f() { if 1 { var x int = 1; } var @x@ int = 1; }"},
		{"one name in an if and its else", api.ErrName, "fn f() { if 1 { var x int = 1; } else { var @x@ int = 1; } }"},
		{"one name in a block and within it", api.ErrName, "fn f() { var x int = 1; while 1 { var @x@ int = 1; } }"},
		{"a parameter's name", api.ErrName, "fn f(a int) { var @a@ int = 1; }"},
		{"a parameter's name in a block", api.ErrName, "fn f(a int, b int) { if a { var @b@ int = 1; } }"},
		{"a global's name", api.ErrName, "global g int; fn f() { var @g@ int = 1; }"},
		{"the name of a global behind", api.ErrName, "fn f() { while 1 { var @g@ int = 1; } } global g int;"},
		{"a name that is no variable's: no such thing", api.ErrName, "fn f() { @y@ = 1; }"},
	})
}
