package front_test

import (
	"fmt"
	"math"
	"math/rand"
	"runtime/debug"
	"strings"
	"testing"

	"fugue/api"
	"fugue/front"
)

func TestArguments(t *testing.T) {
	for params := range api.MaxParams + 1 {
		var names []string
		for n := range params {
			names = append(names, fmt.Sprintf("a%d int", n))
		}
		src := "fn main(" + strings.Join(names, ", ") + ") { " + repeated("print a%; ", params) + "} fn f(n int) { }"
		for many := range 12 {
			var args []int
			for n := range many {
				args = append(args, 10*n-3)
			}
			for _, fuel := range []int{-1, 0, 1, 1000} {
				trace, e := front.Run(src, fuel, args...)
				if many != params {
					if e != api.ErrArg || !alike(trace, api.Trace{}) {
						t.Errorf("P25.2: %d arguments for %d: %+v, %d", many, params, trace, e)
					}
				} else if e != api.OK || fuel == 1000 && (trace.End != api.Done || fmt.Sprint(trace.Prints) != fmt.Sprint(nums(args...))) {
					t.Errorf("P25.2: %d arguments: %+v, %d", many, trace, e)
				}
			}
		}
		// Compile's error comes first.
		for _, c := range []struct {
			src string
			e   api.Errno
		}{{src + "$", api.ErrSource}, {src + " fn main() { }", api.ErrName}, {src + " fn g() { x = 1; }", api.ErrName}, {src + " fn g() { print null int; }", api.ErrType}} {
			if trace, e := front.Run(c.src, 10, 1, 2, 3, 4, 5, 6, 7, 8, 9); e != c.e || !alike(trace, api.Trace{}) {
				t.Errorf("P25.2: %q: %+v, %d", c.src, trace, e)
			}
		}
	}
}

func TestFuels(t *testing.T) {
	src := "fn main(n int) int { while n { print n; n = n + -1; } return 7; }"
	for _, fuel := range []int{math.MinInt, -1000, -1, 0} {
		if trace, e := front.Run(src, fuel, 1); e != api.OK || !alike(trace, api.Trace{End: api.Fuel}) {
			t.Errorf("P25.2: fuel %d: %+v, %d", fuel, trace, e)
		}
		if trace, e := front.Run("fn main() int { }", fuel); e != api.OK || !alike(trace, api.Trace{End: api.Done, Results: nums(0)}) {
			t.Errorf("P25.2: fuel %d for nothing: %+v, %d", fuel, trace, e)
		}
	}
	meaning{"just enough", src, []int{3}, "3 2 1", "7", api.Done, 1 + 4 + 3*6 + 3 + 2}.holds(t)
	meaning{"null with no fuel left", "fn main() { *null *int = 1; }", nil, "", "", api.Nils, 3}.holds(t)
	meaning{"without fuel behind a print", "fn main() { print 1; while 1 { } }", nil, "1", "", api.Fuel, 0}.fuels(t)
}

// fuels: of a run that never ends.
func (m meaning) fuels(t *testing.T) {
	t.Helper()
	p := taken(t, m.what, m.src)
	for fuel := range 60 {
		trace, e := front.Run(m.src, fuel, m.args...)
		if e != api.OK || trace.End != api.Fuel || trace.Steps != fuel || len(trace.Results) > 0 || fuel > 2 && !begins(values(m.prints), trace.Prints) {
			t.Errorf("P25.2: %s: %q with %d: %+v, %d", m.what, m.src, fuel, trace, e)
		}
		keeps(t, m.src, p, fuel, m.args)
	}
}

func TestForEver(t *testing.T) {
	for _, m := range []meaning{
		{"a while", "fn main() { while 1 { } }", nil, "", "", api.Fuel, 0},
		{"a while by a pointer", "fn main() { while new int { } }", nil, "", "", api.Fuel, 0},
		{"a call of oneself", "fn main() { main(); }", nil, "", "", api.Fuel, 0},
		{"calls in a ring", "fn main() { a(); } fn a() { b(); } fn b() { main(); }", nil, "", "", api.Fuel, 0},
		{"calls as arguments", "fn main() { f(f(f(1))); main(); } fn f(n int) int { return n; }", nil, "", "", api.Fuel, 0},
		{"a call of oneself for an argument", "fn main(n int) int { return main(main(n)) + 1; }", []int{5}, "", "", api.Fuel, 0},
		{"a call of oneself in a sum", "fn main() int { return 1 + (2 + main()); }", nil, "", "", api.Fuel, 0},
		{"returns in whiles", "fn main() { while 1 { if 1 { f(); } } } fn f() { while 1 { return; } }", nil, "", "", api.Fuel, 0},
		{"whiles in whiles", "fn main() { while 1 { var i int = 2; while i { i = i + -1; } } }", nil, "", "", api.Fuel, 0},
	} {
		m.fuels(t)
	}
}

// Calls one in the other, as deep as there is fuel for, in a stack too small for a call each.
func TestDeepCalls(t *testing.T) {
	defer debug.SetMaxStack(debug.SetMaxStack(1 << 20))
	for _, c := range []struct {
		src    string
		n      int
		result string
	}{
		{"fn main(n int) int { if n { return main(n + -1) + 1; } return 0; }", 200000, "200000"},
		{"fn main(n int) int { var x int = 0; if n { while 1 { x = 1 + (f(n + -1)); return x; } } return x; } fn f(n int) int { return 0 + (0 + main(n)); }", 100000, "100000"},
		{"fn main(n int) int { return even(n); } fn even(n int) int { if n == 0 { return 1; } return odd(n + -1); } fn odd(n int) int { if n == 0 { return 0; } return even(n + -1); }", 200001, "0"},
	} {
		trace, e := front.Run(c.src, math.MaxInt, c.n)
		if e != api.OK || trace.End != api.Done || fmt.Sprint(trace.Results) != fmt.Sprint(values(c.result)) {
			t.Errorf("R1: %q: %+v, %d", c.src, trace, e)
		}
		does := onHeap(t, taken(t, "deep calls", c.src), 40*trace.Steps+40, []int{c.n})
		if does.End != api.Done || fmt.Sprint(does.Results) != fmt.Sprint(trace.Results) {
			t.Errorf("P25.3: %q: %+v", c.src, does)
		}
	}
	if trace, e := front.Run("fn main() { main(); }", 3000000); e != api.OK || trace.End != api.Fuel || trace.Steps != 3000000 {
		t.Errorf("R1: %+v, %d", trace, e)
	}
}

// As many functions as there may be, each calling the next one.
func TestTheLongestChain(t *testing.T) {
	defer debug.SetMaxStack(debug.SetMaxStack(1 << 20))
	var b strings.Builder
	for n := range 1022 {
		fmt.Fprintf(&b, "fn f%d(n int) int { return f%d(n) + 1; } ", n, n+1)
	}
	src := b.String() + "fn f1022(n int) int { return n; }"
	meant := fmt.Sprint(nums(1027))
	if trace, e := front.Run(src, 100000, 5); e != api.OK || fmt.Sprint(trace.Results) != meant || trace.Steps != 1022*5+2 {
		t.Errorf("P25.2: %+v, %d", trace, e)
	}
	if does := onHeap(t, taken(t, "a chain", src), 100000, []int{5}); fmt.Sprint(does.Results) != meant {
		t.Errorf("P25.3: %+v", does)
	}
	prints(t, "a chain", src, strings.NewReplacer("{ ", "{\n  ", "; } ", ";\n}\n", "; }", ";\n}\n").Replace(src))
	// And each as long as it may be.
	b.Reset()
	for n := range 1023 {
		fmt.Fprintf(&b, "fn f%d ( ) { %s} ", n, tokensOf(494))
	}
	p := taken(t, "long functions", b.String())
	if len(p.Funcs) != 1023 {
		t.Errorf("P25.1: %d functions", len(p.Funcs))
	}
}

// nested: as often as there is room for in so many tokens, and at most so deep.
func nested(open, mid, shut string, tokens, most int) string {
	count := func(s string) int { return len(strings.Fields(s)) }
	n := min(most, (tokens-count(mid))/(count(open)+count(shut)))
	return strings.Repeat(open, n) + mid + strings.Repeat(shut, n)
}

// What nests most values in 500 tokens: the programs are right, and mean the same.
func TestAllTokensNested(t *testing.T) {
	const heads = " fn two(a int, b int) int { return a + b; } fn all(a int, b int, c int, d int, e int, f int, g int, h int) int { return a + b + c + d + e + f + g + h; } fn mixed(a *int, b int) int { return *a + b; } fn four(a int) int, int, int, int { return a, a, a, a; } record r { a int; b int; c int; d int; e int; f int; g int; next *r; } fn made(n int) *r { return new r; }"
	params := "a int , b int , c int , d int , e int , f int , g int , h int"
	most := 0
	for _, c := range []struct {
		before, open, mid, shut, after string
		deep                           int
	}{
		{"print ", "1 + ", "1", "", " ; ", 500},
		{"print ", "1 + ( ", "1", " )", " ; ", 31},
		{"print ", "( 1 == 1 + ( ", "1", " ) )", " ; ", 15},
		{"print ", "all ( 1 , 1 , 1 , 1 , 1 , 1 , 1 , ", "1", " )", " ; ", 31},
		{"print ", "all ( 1 , 1 , 1 , 1 , 1 , 1 , 1 , 1 + ", "1", " )", " ; ", 31},
		{"print ", "all ( 1 , 1 , 1 , 1 , 1 , 1 , 1 , 1 == 1 + ", "1", " )", " ; ", 31},
		{"print ", "all ( a , b , c , d , e , f , g , h < g + ", "h", " )", " ; ", 31},
		{"a = h == g + ", "all ( a , b , c , d , e , f , g , h == g + ", "h", " )", " ; ", 31},
		{"* new int = h == g + ", "all ( a , b , c , d , e , f , g , h == g + ", "h", " )", " ; ", 31},
		{"made ( 1 ) . a = h == g + ", "all ( a , b , c , d , e , f , g , h == g + ", "h", " )", " ; ", 31},
		{"return 1 , 2 , 3 , h == g + ", "all ( a , b , c , d , e , f , g , h == g + ", "h", " )", " ; ", 31},
		{"a , b , c , d = four ( h == g + ", "all ( a , b , c , d , e , f , g , h == g + ", "h", " )", " ) ; ", 30},
		{"print ", "two ( 1 , 1 + ", "1", " )", " ; ", 31},
		{"print ", "mixed ( & a , 1 + ", "1", " )", " ; ", 31},
		{"print made ( 1 )", " . next", " . next", "", " ; ", 500},
		{"print ( * new * r )", " . next", "", "", " . a ; ", 500},
		{"print ", "1 + * & a + ", "a", "", " ; ", 500},
		{"", "if a { ", "print a ; ", "} ", "", 31},
		{"", "while a { a = a + -1 ; ", "print a ; ", "} ", "", 31},
		{"", "if a { } else { ", "print a ; ", "} ", "", 30},
		{"", "print new r == new r ; ", "", "", "", 500},
		{"", "print ( new r ) . a ; ", "", "", "", 500},
		{"", "a , b , c , d = four ( 1 ) ; ", "", "", "", 500},
		{"", "four ( 1 ) ; ", "", "", "", 500},
		{"", "if a { } else { } ", "", "", "", 500},
		{"", "while 0 { } ", "", "", "", 500},
		{"", "return 1 , 2 , 3 , 4 ; ", "", "", "", 500},
		{"", "return ; ", "", "", "", 500},
	} {
		results := ""
		if strings.Contains(c.before+c.open, "return 1") {
			results = "int , int , int , int "
		}
		head := "fn main ( " + params + " ) " + results + "{ "
		used := len(strings.Fields(head + c.before + c.after + "}"))
		src := head + c.before + nested(c.open, c.mid, c.shut, 500-used, c.deep) + c.after + "}" + heads
		p := taken(t, "500 tokens nested", src)
		if len(p.Funcs) == 0 {
			continue
		}
		most = max(most, p.Funcs[0].Vars)
		for _, args := range [][]int{{1, 2, 3, 4, 5, 6, 7, 8}, {0, 0, 0, 0, 0, 0, 0, 0}} {
			for _, fuel := range []int{0, 1, 30, 200, 5000} {
				keeps(t, src, p, fuel, args)
			}
		}
	}
	if most < 150 {
		t.Errorf("only %d variables", most)
	}
}

// Long texts of one kind; all is read once.
func TestLongSources(t *testing.T) {
	const long = 20 << 20
	for _, c := range []struct {
		what, src string
		err       api.Errno
		line      int
	}{
		{"a comment", "#" + strings.Repeat("x", long) + "\nfn f() { }", api.OK, 0},
		{"comments", strings.Repeat("#\n", long/2) + "fn f() { }", api.OK, 0},
		{"comments, and nothing else", strings.Repeat("#\n", long/2), api.ErrName, long/2 + 1},
		{"blanks", strings.Repeat(" \t\r\n", long/4) + "fn f() { }", api.OK, 0},
		{"lines", strings.Repeat("\n", long) + "fn f() { x = 1; }", api.ErrName, long + 1},
		{"lines in a function", "fn f() { " + strings.Repeat("\n", long) + "x = 1; }", api.ErrName, long + 1},
		{"a word", "fn " + strings.Repeat("a", long), api.ErrSource, 1},
		{"a number", "fn f() { print " + strings.Repeat("7", long) + "; }", api.ErrSource, 1},
		{"a number of zeros", "fn f() { print -" + strings.Repeat("0", long) + "; }", api.ErrSource, 1},
		{"minuses", "fn f() { print " + strings.Repeat("-", long), api.ErrSource, 1},
		{"signs", strings.Repeat("(", long), api.ErrSource, 1},
		{"brackets", "fn f() { print " + strings.Repeat("(\n", long/2), api.ErrSource, 32},
		{"stars", "global g " + strings.Repeat("*\n", long/2), api.ErrSource, 33},
		{"sums", "fn f() { print 1" + strings.Repeat(" +\n1", long/4), api.ErrSource, 248},
		{"statements", "fn f() {\n" + strings.Repeat("return;\n", long/8), api.ErrSource, 249},
		{"functions", repeated("fn f%() { }\n", 200000), api.ErrSource, 1024},
		{"records", repeated("record r% { }\n", 200000), api.ErrSource, 101},
		{"bytes that are none", strings.Repeat("\x00", long), api.ErrSource, 1},
		{"behind all", "fn f() { }" + strings.Repeat(" ", long) + "\n\xff", api.ErrSource, 2},
	} {
		if c.err == api.OK {
			if _, e, line := front.Compile(c.src); e != api.OK || line != 0 {
				t.Errorf("P25.1: %s: %d at %d", c.what, e, line)
			}
			continue
		}
		if _, e, line := front.Compile(c.src); e != c.err || line != c.line {
			t.Errorf("P25.1: %s: %d at %d, want %d at %d", c.what, e, line, c.err, c.line)
		}
		if _, e, line := front.Print(c.src); c.err == api.ErrSource && (e != c.err || line != c.line) {
			t.Errorf("P25.4: %s: %d at %d", c.what, e, line)
		}
	}
}

// Any bytes at all, and sources with a byte changed, one more or one less: nothing panics, and what is taken is right.
func TestAnyBytes(t *testing.T) {
	r := rand.New(rand.NewSource(1))
	taken := 0
	for range 30000 {
		var src []byte
		if r.Intn(4) == 0 {
			for range r.Intn(40) {
				src = append(src, byte(r.Intn(256)))
			}
		} else {
			src = []byte(scattered(r, strings.Fields(allRules[r.Intn(len(allRules))])))
			if r.Intn(2) == 0 {
				src = []byte(scattered(r, tokensOfTree(anyTree(r), nil)))
			}
			for range 1 + r.Intn(2) {
				at := r.Intn(len(src))
				switch r.Intn(3) {
				case 0:
					src[at] = pick(r, []byte("\n #*({})=<+;.,&-019azr_\xff")...)
				case 1:
					src = append(src[:at], src[at+1:]...)
				default:
					src = append(src[:at], append([]byte{pick(r, []byte("\n #*({})=<+;.,&-019azr_\xff")...)}, src[at:]...)...)
				}
			}
		}
		p, e, line := front.Compile(string(src))
		text, f, at := front.Print(string(src))
		lines := 1 + strings.Count(string(src), "\n")
		switch {
		case (e == api.ErrSource) != (f == api.ErrSource) || e == api.ErrSource && line != at || f != api.OK && f != api.ErrSource:
			t.Fatalf("P25.4: %q: Compile %d at %d, Print %d at %d", src, e, line, f, at)
		case e == api.OK && (line != 0 || !right(p)) || e != api.OK && (line < 1 || line > lines || !zero(p)):
			t.Fatalf("P25.1: %q: %d at %d", src, e, line)
		case e != api.OK && e != api.ErrSource && e != api.ErrName && e != api.ErrType:
			t.Fatalf("P25.1: %q: %d", src, e)
		}
		if again, g, _ := front.Print(text); f == api.OK && (g != api.OK || again != text) {
			t.Fatalf("P25.4: %q: Print %q, again %q", src, text, again)
		}
		if _, g, _ := front.Compile(text); f == api.OK && g != e {
			t.Fatalf("P25.4: %q: %d, but what Print makes of it %d", src, e, g)
		}
		if e == api.OK {
			taken++
		}
	}
	if taken < 1000 {
		t.Errorf("only %d were sources", taken)
	}
}
