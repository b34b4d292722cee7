package front_test

import (
	"strings"
	"testing"

	"fugue/api"
)

// around: what the statements of these tests may name: they stand, in the place of %, in a function with the parameter n and the results int and *cell.
const around = "record cell { v int; next *cell; far **cell; num *int; } record empty { } global g int; global h *cell; fn main() { } fn here(n int) int, *cell { var x int = 1; var p *int = &x; var q **int = &p; var c *cell = new cell; var d **cell = new *cell; var e *empty = new empty; % } " +
	"fn none() { } fn one(a int) int { } fn cells(a *cell, b int) *cell { } fn two() int, *cell { } fn three(a int, b int, c *int) int, int, int { } fn deep(a ***int) **int { }"

// rows: of the chapter's table: statements, parted by |, that are as is wanted, and others with ErrName and ErrType at what is marked.
var rows = []struct{ what, right, names, types string }{
	{"a number",
		`print 1 | x = -5 | one(0) | return 1, c`, ``,
		`p = @1@ | c = @-1@ | d = @0@ | *q = @1@ | return 1, @1@`},
	{"a name",
		`print x | print n | print g | print h | print p | print e | x = n | g = x | h = c | c = h`,
		`print @y@ | print @main@ | print @cell@ | print @v@ | x = @y@ | one(@y@) | return @y@, c | return 1, @y@ | if @y@ { } | while @y@ { } | print (@y@) | print @y@ + 1 | print 1 == @y@ | print *@y@ | print @y@.v`,
		`x = @p@ | p = @x@ | g = @h@ | h = @g@ | c = @e@ | c = @d@ | p = @c@ | one(@p@) | one(@h@)`},
	{"the address of a name",
		`p = &x | p = &n | q = &p | d = &c | print &e == &e | print &q | deep(&q)`,
		`print &@y@ | print &@one@ | p = &@y@ | print *&@y@`,
		`print @&@g | print @&@h | p = @&@g | x = @&@x | p = @&@p | q = @&@x | d = @&@e | print *@&@g`},
	{"new",
		`p = new int | q = new *int | c = new cell | d = new *cell | e = new empty | print new ***cell | *d = new cell | print new *int == deep(&q) | print new *int == q`,
		`print new @none@ | print new *@x@ | print new **@g@ | c = new @v@ | print (new @y@).v`,
		`x = @new@ int | p = @new@ *int | c = @new@ *cell | e = @new@ cell | d = @new@ cell | c = @new@ empty | p = @new@ cell`},
	{"null",
		`p = null *int | q = null **int | c = null *cell | print null ***empty | d = null **cell | deep(null ***int)`,
		`print null *@none@ | print null **@y@ | c = null *@x@ | print null *@y@ == 1`,
		`print @null@ int | x = @null@ int | p = @null@ int | x = @null@ *int | p = @null@ **int | c = @null@ **cell | e = @null@ *cell | print (@null@ int) | print 1 + @null@ int`},
	{"what a pointer points to",
		`x = *p | p = *q | x = **q | c = *d | print *&x | print *new int | print *null *int | print *c.num | print *(p) | print *deep(&q) == p | print *(*q)`,
		`print *@y@ | print **@y@ | print *&@y@ | print *c.@w@`,
		`print @*@x | print @*@1 | print @*@c | print @*@e | print @*@h | print @*@*p | print @*@**q | print @*@*d | print @*@(x + 1) | print @*@new cell | print @*@null *cell | print @*@one(1) | print @*@cells(c, 1) | p = @*@p | x = @*@q | print @*@c.v | print @*@c.next`},
	{"a field",
		`x = c.v | c = c.next | d = c.far | p = c.num | x = c.next.v | x = c.next.next.v | print (*d).v | print (*c.far).next | print h.v | print cells(c, 1).v | print (new cell).v | print (null *cell).next | print (c).v`,
		`print @y@.v | print c.@w@ | print c.@c@ | print e.@v@ | print h.@g@ | print c.next.@w@ | print (*d).@x@ | print cells(c, 1).@w@ | print (new empty).@v@`,
		`print @x@.v | print @5@.v | print @p@.v | print @d@.v | print @q@.v | print @c@.v.v | print @c@.next.far.v | print @c@.num.v | print @(@*c.num).v | print @(@x + 1).v | print @(@x).v | print @one@(1).v | print @(@new int).v | print @(@&c).v | print @(@null **cell).v | print @(@*q).v | print @(@1 == 1).next`},
	{"a sum",
		`x = 1 + x | x = x + n + g + *p + c.v + one(1) + (1 < 2) | print 1 + (2 + 3) | print *p + **q`,
		`print @y@ + 1 | print 1 + @y@ | print 1 + 2 + @y@ | print 1 + (2 + @y@)`,
		`print @p@ + 1 | print 1 + @p@ | print @p@ + p | print 1 + 2 + @c@ | print @c@ + 1 + 2 | print 1 + @c@ + 2 | print @(@p) + 1 | print 1 + @(@p) | print 1 + (2 + @p@) | print (1 + @p@) + 1 | print @&@x + 1 | print @new@ int + 1 | print 1 + @null@ *int | print 1 + @*@q | print @*@q + 1 | print @c@.next + 1 | print 1 + @c@.next | print @cells@(c, 1) + 1 | p = @1@ + 1 | c = @x@ + x | p = @(@x + x)`},
	{"less than",
		`x = 1 < 2 | print x < n + 1 | print x + 1 < n | print (1 < 2) < 3 | print 1 < (2 == 3) | print *p < c.v`,
		`print @y@ < 1 | print 1 < @y@ | print 1 + @y@ < 2`,
		`print @p@ < 1 | print 1 < @p@ | print @p@ < p | print @c@ < c | print @&@x < 1 | print 1 < @(@p) | print @(@p) < 1 | print 1 < @c@.next | p = @1@ < 2 | p = @x@ < x | print 1 < 2 + @p@ | print @p@ + 1 < 2`},
	{"the same",
		`x = 1 == 2 | print p == p | print c == h | print c == null *cell | print p == &x | print q == &p | print c.next == c | print new int == p | print e == e | print 1 + 1 == x | print (p == p) == 1 | print (1 == 2) == (3 == 4) | print *q == p`,
		`print @y@ == 1 | print 1 == @y@ | print c == @y@ | print c.@w@ == 1 | print 1 == c.@w@`,
		`print 1 == @p@ | print p == @1@ | print c == @p@ | print p == @q@ | print c == @d@ | print c == @e@ | print c == @c@.v | print c.v == @c@ | print p == @(@q) | print (p) == @x@ | print null *int == @null@ **int | print p == @1@ + 1 | print 1 + 1 == @p@ | print p == @new@ cell | p = @p@ == p | print cells(c, 1) == @one@(1) | print p == @(@p == p)`},
	{"a call",
		`print one(1) | x = one(one(x)) | c = cells(c, 1) | c = cells(new cell, one(2)) | none() | one(1) | two() | three(1, 2, p) | print one((1)) | print deep(&q) == q | print 1 + one(1) + (one(2))`,
		`print @y@() | print @x@(1) | print @cell@(1) | @y@() | @y@(1, 2) | one(@y@) | print one(1 + @y@) | cells(c, @y@) | cells(@y@, 1) | one(@y@(1)) | print @n@() | @g@(1) | @h@()`,
		`print @none@() | print @two@() | print @three@(1, 2, p) | print @one@() | print @one@(1, 2) | @one@() | @one@(1, 2) | @none@(1) | @two@(1) | @three@(1, 2) | print one(@p@) | one(@p@) | cells(@x@, 1) | cells(c, @c@) | cells(@1@, c) | one(@(@p)) | one(@&@x) | x = @cells@(c, 1) | c = @one@(1) | one(@none@()) | one(@two@()) | three(1, 2, @3@) | three(1, @p@, p) | three(@p@, 1, p) | print one(1) + @none@() | one(@cells@(c, 1)) | if @none@() { } | while @two@() { } | return @none@(), c | p = @none@() | var z int = @none@() | print *@none@() | print @none@().v | *@two@() = 1 | @none@().v = 1 | print (@none@())`},
	{"a variable",
		`var z int = 1 | var w *int = p | var a **cell = d | var b *empty = e | var f int = 1 < 2 | var one int = one(1) | var cell *cell = c | var i ***int = &q`,
		`var @x@ int = 1 | var @n@ int = 1 | var @g@ int = 1 | var @h@ *cell = c | var z *@y@ = c | var z ***@none@ = c | var z int = @y@ | var z int = @z@`,
		`var z int = @p@ | var z *int = @1@ | var z *cell = @e@ | var z **int = @p@ | var z *int = @q@ | var z int = @(@p) | var z *int = @x@ + 1 | var z int = @null@ *int | var z *cell = @c@.v | var z *cell = @h@.far`},
	{"a name is set",
		`x = 1 | n = x | g = n | h = c | p = null *int | e = new empty`,
		`@y@ = 1 | @one@ = 1 | @cell@ = 1 | @v@ = 1 | x = @y@`,
		`x = @p@ | p = @x@ | g = @c@ | h = @1@ | e = @c@ | x = @(@p) | p = @x@ == 1 | n = @new@ int`},
	{"what a pointer points to is set",
		`*p = 1 | *q = p | **q = 1 | *d = c | *&x = 1 | *new int = 1 | *c.num = 2 | *c.far = c | *null *int = 1 | *(p) = 2 | *deep(&q) = p | *(*q) = 1`,
		`*@y@ = 1 | **@y@ = 1 | *c.@w@ = 1 | *p = @y@ | *&@y@ = 1`,
		`@*@x = 1 | @*@1 = 1 | @*@c = c | @*@e = e | @*@*p = 1 | @*@(x + 1) = 1 | @*@new cell = c | @*@c.next = c | @*@c.v = 1 | @*@one(1) = 1 | *p = @p@ | *q = @x@ | *d = @e@ | *p = @(@p) | *q = @new@ *int | **q = @p@ | @*@*d = c | @*@**q = 1 | *@&@g = 1`},
	{"a field is set",
		`c.v = 1 | c.next = c | c.far = d | c.num = p | c.next.v = 2 | c.next.next = h | h.v = 3 | cells(c, 1).v = 4 | (*d).next = c | (new cell).v = 5 | (c).v = 6 | (c.next).v = 7 | (null *cell).num = null *int`,
		`@y@.v = 1 | c.@w@ = 1 | e.@v@ = 1 | c.next.@w@ = 1 | c.@w@.v = 1 | c.v = @y@ | cells(c, @y@).v = 1 | (*@y@).v = 1 | (new empty).@v@ = 1`,
		`@x@.v = 1 | @5@.v = 1 | @p@.v = 1 | @d@.v = 1 | @c@.v.v = 1 | @c@.far.v = 1 | c.v = @p@ | c.v = @c@ | c.next = @1@ | c.next = @e@ | c.num = @c@ | c.far = @c@ | @(@x).v = 1 | @(@p).v = 1 | @one@(1).v = 1 | @(@&c).v = 1 | c.v = @(@c) | c.next.v = @c@.next | @(@5).v = 1`},
	{"several are set",
		`x, c = two() | g, h = two() | n, c = two() | x, h = two() | x, x, x = three(1, 2, p) | x, g, n = three(x, g, p)`,
		`@y@, c = two() | x, @y@ = two() | @one@, c = two() | x, c = @y@() | x, c = @x@() | x, x, x = three(@y@, 1, p) | x, x, @y@ = three(1, 2, p)`,
		`x, c = @none@() | x, c = @one@(1) | x, c = @three@(1, 2, p) | x, x, x = @two@() | x, c = @two@(1) | @c@, x = two() | x, @x@ = two() | @p@, x, x = three(1, 2, p) | x, @c@, x = three(1, 2, p) | x, x, @c@ = three(1, 2, p) | @h@, g = two() | x, @e@ = two() | x, x, x = three(1, @p@, p)`},
	{"a return",
		`return 1, c | return x, null *cell | return (1), (c) | return g, h | return one(1), cells(c, 1) | return 1 < 2, c.next`,
		`return @y@, c | return 1, @y@ | return 1, c.@w@`,
		`@return@ | @return@ 1 | @return@ 1, c, 1 | @return@ 1, c, c, c | return @c@, c | return 1, @1@ | return @c@, c | return 1, @e@ | return @(@c), c | return 1, @(@1) | return @p@, c | return 1, @c@.v | return 1, @d@ | return @null@ *int, c`},
	{"an if",
		`if x { } | if p { } | if c { } else { } | if 1 < 2 { x = 1; } | if null *cell { } | if h { if g { } else { } } else { if p { } }`,
		`if @y@ { } | if x { @y@ = 1; } | if x { } else { @y@ = 1; }`,
		`if 1 + @p@ { } | if x { x = @p@; } | if x { } else { x = @p@; } | if @*@c { }`},
	{"a while",
		`while x { } | while p { } | while c.next { c = c.next; }`,
		`while @y@ { } | while x { @y@ = 1; }`,
		`while 1 + @p@ { } | while x { x = @p@; } | while @*@c { }`},
	{"a print",
		`print 1 | print p | print c | print d | print e | print null *int | print new *cell`,
		`print @y@`,
		`print @*@c | print 1 + @p@`},
}

// statement: with the ; that ends it.
func statement(s string) string {
	if s = strings.TrimSpace(s); strings.HasSuffix(s, "}") {
		return s
	}
	return s + ";"
}

func TestRows(t *testing.T) {
	for _, r := range rows {
		for s := range strings.SplitSeq(r.right, " | ") {
			taken(t, r.what, strings.Replace(around, "%", statement(s), 1))
		}
		for s := range strings.SplitSeq(r.names, " | ") {
			if s != "" {
				refused(t, r.what, api.ErrName, strings.Replace(around, "%", statement(s), 1))
			}
		}
		for s := range strings.SplitSeq(r.types, " | ") {
			refused(t, r.what, api.ErrType, strings.Replace(around, "%", statement(s), 1))
		}
	}
}

// Of several things that are not as is wanted the first that the chapter asks for counts.
func TestOrder(t *testing.T) {
	for _, c := range []struct {
		err api.Errno
		s   string
	}{
		// Operands whole, from left to right, ahead of what is asked of both.
		{api.ErrName, `print p + @y@`}, {api.ErrName, `print @y@ + z`}, {api.ErrName, `print p < @y@`}, {api.ErrName, `print p == @y@`},
		{api.ErrType, `print p + @*@x`}, {api.ErrType, `print @*@x + y`}, {api.ErrType, `print @p@ + c`}, {api.ErrType, `print @p@ < c`},
		{api.ErrType, `print 1 + @p@ + y`}, {api.ErrType, `print 1 + @(@p) + y == z`}, {api.ErrType, `print 1 + (2 + @p@) + y`},
		{api.ErrType, `print (@p@ + 1) + y`}, {api.ErrType, `print p + (1 + @c@)`}, {api.ErrType, `print @p@ + (1 + 1)`},
		{api.ErrName, `print 1 == p + @y@(1)`},
		// What a star, a field asks for behind its operand.
		{api.ErrName, `print *@y@.v`}, {api.ErrName, `print @y@.w`}, {api.ErrType, `print @x@.w`}, {api.ErrName, `print **c.@w@`}, {api.ErrType, `print @*@(1 + 1)`}, {api.ErrType, `print *(1 + @p@)`}, {api.ErrType, `print (1 + @p@).w`},
		// Of a call its name, how many arguments, results; then the arguments whole; then their types.
		{api.ErrName, `print @y@(z, 1)`}, {api.ErrType, `print @none@(y)`}, {api.ErrType, `print @one@(y, z)`}, {api.ErrType, `print @three@(y, z, x)`}, {api.ErrName, `@one2@(y)`},
		{api.ErrName, `three(p, p, @y@)`}, {api.ErrName, `cells(1, @y@)`}, {api.ErrType, `three(p, @*@x, y)`}, {api.ErrType, `three(@p@, p, x)`}, {api.ErrType, `three(1, @p@, x)`}, {api.ErrType, `cells(x, one(@p@))`}, {api.ErrType, `cells(@x@, one(1))`}, {api.ErrType, `cells(x, @none@())`}, {api.ErrName, `cells(x, @y@())`},
		{api.ErrType, `print @two@() + y`}, {api.ErrType, `print one(@p@) + 1 == y(1)`},
		// Of what is set the place, then the value, then its type.
		{api.ErrName, `@y@ = z`}, {api.ErrName, `@y@ = null int`}, {api.ErrName, `p = @y@`}, {api.ErrType, `@*@x = y`}, {api.ErrType, `@*@c = y`}, {api.ErrName, `*@y@ = z`}, {api.ErrType, `@x@.v = y`}, {api.ErrName, `c.@w@ = y`}, {api.ErrName, `c.@w@ = 1 + p`}, {api.ErrType, `x = 1 + @p@`}, {api.ErrName, `c.next = @y@`}, {api.ErrType, `c.next = @*@x`}, {api.ErrType, `@p@.w = 1`},
		// Of a variable its name, its type, the value, the value's type.
		{api.ErrName, `var @x@ *nosuch = y`}, {api.ErrName, `var @g@ int = y`}, {api.ErrName, `var z *@nosuch@ = y`}, {api.ErrName, `var z *@nosuch@ = 1 + p`}, {api.ErrName, `var z *int = @y@`}, {api.ErrType, `var z *int = 1 + @p@`}, {api.ErrType, `var z *int = @1@ + 1`},
		// Of several the names, then the call, then their types.
		{api.ErrName, `x, @y@ = nosuch()`}, {api.ErrName, `@y@, z = none(1)`}, {api.ErrName, `c, @y@ = two()`}, {api.ErrName, `c, x = @nosuch@(y)`}, {api.ErrType, `c, x = @two@(y)`}, {api.ErrType, `c, x = @three@(y, y, y)`}, {api.ErrType, `c, x = @one@(y)`}, {api.ErrName, `c, x, x = three(1, 1, @y@)`}, {api.ErrType, `c, x, x = three(1, 1, @1@)`}, {api.ErrType, `@c@, p, x = three(1, 1, p)`}, {api.ErrType, `x, @p@, c = three(1, 1, p)`},
		// Of a return how many values, then these, then their types.
		{api.ErrType, `@return@ y`}, {api.ErrType, `@return@ y, z, 1`}, {api.ErrName, `return c, @y@`}, {api.ErrType, `return c, @*@x`}, {api.ErrType, `return @c@, 1`}, {api.ErrName, `return @y@, z`}, {api.ErrType, `return 1 + @p@, y`},
		// Of a new, a null the name.
		{api.ErrName, `print new @y@ == z`}, {api.ErrName, `print new *@y@ + z`}, {api.ErrType, `print @null@ int + y`},
		// One statement behind the other, and the whole condition ahead of the blocks.
		{api.ErrType, `x = @p@; y = 1`}, {api.ErrName, `@y@ = 1; x = p`}, {api.ErrName, `if x { @y@ = 1; } else { x = p; }`}, {api.ErrType, `if x { } else { x = @p@; } y = 1`}, {api.ErrType, `if 1 + @p@ { y = 1; }`}, {api.ErrName, `while @y@ { x = p; }`}, {api.ErrType, `while x { x = @p@; } y = 1`}, {api.ErrName, `if x { x = 1; } @y@ = 1`},
	} {
		refused(t, "the order", c.err, strings.Replace(around, "%", statement(c.s), 1))
	}
	// Function by function.
	refused(t, "the first function first", api.ErrType, "fn f() { var x int = @null@ *int; } fn g() { y = 1; }")
	refused(t, "the second function behind it", api.ErrName, "fn f() { } fn g() { @y@ = 1; } fn h() { x = null int; }")
	refused(t, "heads ahead of blocks", api.ErrName, "fn f() { y = 1; } fn @f@() { }")
}
