package front_test

import (
	"fmt"
	"math"
	"strings"
	"testing"

	"fugue/api"
	"fugue/front"
)

// All bytes between two tokens, ahead of the first and behind the last: four are blanks.
func TestBlanks(t *testing.T) {
	for b := range 256 {
		c := string([]byte{byte(b)})
		for _, s := range []string{"fn main() {@}", "@fn main() { }", "fn main() { }@", "fn@main() { }", "fn main() { print 1@; }", "fn main() { print f@(1); } fn f(n int) int { }"} {
			src := strings.Replace(s, "@", c, 1)
			blank := strings.Contains("\t\n\r ", c)
			_, e, line := front.Compile(src)
			if blank && e != api.OK {
				t.Errorf("P25.1: the byte %d in %q: %d at %d", b, s, e, line)
			}
			if !blank && strings.Contains(s, "{@}") && (e != api.ErrSource || line != 1) {
				t.Errorf("P25.1: the byte %d in %q: %d at %d", b, s, e, line)
			}
		}
	}
	taken(t, "no blanks", "record r{v int;next*r;}global g*r;fn main(n int)int,int{if n<1{g=new r;}else{g.v=1+2;}while 0{print&n==null*int;}a(1,2);return 1,-1;}fn a(x int,y int){return;}")
	taken(t, "all blanks", "\r\n\t fn\tmain\r(\n) \t{ \r\n} \n\n")
}

// Bytes that begin no token are told at their own line, wherever they stand.
func TestNoTokens(t *testing.T) {
	for b := range 256 {
		c := string([]byte{byte(b)})
		if c == "@" {
			continue // it marks, here
		}
		if strings.ContainsAny(c, "\t\n\r #") || strings.Contains("abcdefghijklmnopqrstuvwxyz0123456789{}(),;.=+<*&", c) {
			continue
		}
		for _, s := range []string{"@%@", "@%@ fn main() { }", "fn @%@ main() { }", "fn main() { @%@ }", "fn main() { print @%@ 1; }", "fn main() { print 1 @%@; }", "fn main() { print x @%@ }", "fn main() { } @%@"} {
			refused(t, "a byte that begins no token", api.ErrSource, strings.Replace(s, "%", c, 1))
		}
	}
	refusedAt(t, "\n@ fn main() { }", api.ErrSource, 2)
	refusedAt(t, "fn main() {\n@ }", api.ErrSource, 2)
	for _, s := range []string{"fn main() { print 1 @-@ 2; }", "fn main() { print @-@ 2; }", "fn main() { print @- 2@; }", "fn main() { print @--2@; }", "fn main() { print @-x@; }", "fn main() { print @-@(2); }", "fn main() { @_x@ = 1; }", "fn main() { print x@_Y@; }", "fn main() { print @Xyz@; }", "fn main() { print x @>@ 1; }", "fn main() { print x @!@= 1; }", "fn main() { print @\"x\"@; }", "fn main() { @é@ = 1; }", "fn main() { @\x00@ }"} {
		refused(t, "no token", api.ErrSource, s)
	}
}

func TestComments(t *testing.T) {
	for _, c := range []struct {
		src string
		err api.Errno
		at  int
	}{
		{"# nothing", api.ErrName, 1},
		{"#", api.ErrName, 1},
		{"#\n", api.ErrName, 2},
		{"# a\n# b\n\n# c", api.ErrName, 4},
		{"# fn main() { }", api.ErrName, 1},
		{"# a # b\nfn main() { }", api.OK, 0},
		{"# a\rfn main() { }", api.ErrName, 1},
		{"# \xff\x00$\"'{\nfn main() { }", api.OK, 0},
		{"fn main() { }# at the end", api.OK, 0},
		{"fn main() { }#", api.OK, 0},
		{"fn main() { print 1#;\n; }", api.OK, 0},
		{"fn main() { print 1#;\n}", api.ErrSource, 2},
		{"fn#x\nmain#y\n(#z\n)#\n{#\n}#", api.OK, 0},
		{"fn ma#in\nin() { }", api.ErrSource, 2},
		{"fn main() { print x#\n; }", api.ErrName, 1},
		{"fn main() { print #\n#\n#\nx; }", api.ErrName, 4},
		{"fn main() { print -#\n1; }", api.ErrSource, 1},
		{"fn main() { print 1 =#\n= 1; }", api.ErrSource, 1},
		{"fn main() { # }", api.ErrSource, 1},
		{"fn main() { # }\n\n", api.ErrSource, 3},
		{"fn main() { print 1; } # é\n$", api.ErrSource, 2},
	} {
		if c.err != api.OK {
			refusedAt(t, c.src, c.err, c.at)
			continue
		}
		taken(t, "a comment", c.src)
	}
}

// Words at each place where a name may stand.
func TestNames(t *testing.T) {
	places := []string{
		"record @%@ { } fn main() { }",
		"record r { @%@ int; } fn main() { }",
		"record r { v *@%@; } fn main() { }",
		"global @%@ int; fn main() { }",
		"global g *@%@; fn main() { }",
		"fn @%@() { }",
		"fn main(@%@ int) { }",
		"fn main(n int, @%@ int) { }",
		"fn main() *@%@ { }",
		"fn main() { var @%@ int = 1; }",
		"fn main() { @%@ = 1; }",
		"fn main() { x, @%@ = f(); }",
		"fn main() { x, y = @%@(); }",
		"fn main() { @%@(); }",
		"fn main() { print @%@; }",
		"fn main() { print &@%@; }",
		"fn main() { print new @%@; }",
		"fn main() { print null *@%@; }",
		"fn main() { print p.@%@; }",
		"fn main() { p.@%@ = 1; }",
		"fn main() { p.f.@%@ = 1; }",
	}
	for _, s := range places {
		for _, w := range []string{"x", "z9", "a_", "a__0", "records", "int1", "newx", "fn_", "else0", strings.Repeat("a", 24), "a" + strings.Repeat("_", 22) + "9"} {
			src := strings.NewReplacer("@", " ", "%", w).Replace(s)
			if _, e, line := front.Print(src); e != api.OK || line != 0 {
				t.Errorf("P25.4: %q: %d at %d", src, e, line)
			}
			if _, e, _ := front.Compile(src); e == api.ErrSource {
				t.Errorf("P25.1: %q: ErrSource", src)
			}
		}
		for _, w := range []string{strings.Repeat("a", 25), "b" + strings.Repeat("_", 23) + "9", "records" + strings.Repeat("s", 18), strings.Repeat("x", 1000), "X", "_a", "_"} {
			refused(t, "no name", api.ErrSource, strings.Replace(s, "%", w, 1))
		}
	}
	for _, s := range []string{"@f_n@ main() { }", "@fnmain@() { }", "@recor@ r { }", "@records@ r { }", "fn main() { return_ @x@; }", "fn main() { printx @y@; }", "fn main() { varx @x@ int = 1; }", "fn main() { if0 @{@ } }", "fn main() { if 1 { } elsex @{@ } }", "fn main() @int_@ { }", "fn f(n @intx@) { }"} {
		refused(t, "a longer word than a keyword", api.ErrSource, s)
	}
	for _, k := range allKeywords() {
		if k != "record" && k != "global" && k != "fn" {
			refused(t, "a keyword", api.ErrSource, "@"+k+"@ main() { }")
		}
		refused(t, "a keyword", api.ErrSource, "fn @"+k+"@() { }")
		taken(t, "a word that a keyword begins", "fn "+k+"s() { }")
		taken(t, "a word that ends as a keyword", "fn a"+k+"() { }")
	}
}

func TestNumbers(t *testing.T) {
	for _, c := range []struct {
		word string
		n    int
	}{
		{"0", 0}, {"1", 1}, {"9", 9}, {"10", 10}, {"100", 100}, {"-1", -1}, {"-10", -10}, {"1234567890", 1234567890},
		{"9223372036854775807", math.MaxInt}, {"9223372036854775806", math.MaxInt - 1}, {"-9223372036854775808", math.MinInt}, {"-9223372036854775807", math.MinInt + 1},
		{"1000000000000000000", 1000000000000000000}, {"-999999999999999999", -999999999999999999},
	} {
		for _, s := range []string{"fn main() int { return %; }", "fn main() int {return %;}", "fn main() int { return f(%); } fn f(n int) int { return n; }", "fn main() int { var n int =%; return n; }", "fn main() int { return 0+%; }"} {
			src := strings.Replace(s, "%", c.word, 1)
			trace, e := front.Run(src, 100)
			if e != api.OK || fmt.Sprint(trace.Results) != fmt.Sprint(nums(c.n)) {
				t.Errorf("P25.2: %q: %+v, %d", src, trace, e)
			}
			if does := onHeap(t, taken(t, "a number", src), 100, nil); fmt.Sprint(does.Results) != fmt.Sprint(nums(c.n)) {
				t.Errorf("P25.3: %q: %+v", src, does)
			}
			if text, e, _ := front.Print(src); e != api.OK || !strings.Contains(text, c.word) {
				t.Errorf("P25.4: %q: %q, %d", src, text, e)
			}
		}
	}
	wrong := []string{"00", "01", "007", "-0", "-00", "-01", "9223372036854775808", "-9223372036854775809", "9223372036854775810", "10000000000000000000", "-10000000000000000000", "18446744073709551617", "99999999999999999999999999", "00000000000000000000", "00000000000000000001", "1a", "1_", "0x", "12fn", "-1z", "0_", "1_000", "9223372036854775807a", strings.Repeat("9", 100000), "-" + strings.Repeat("1", 100000), "1" + strings.Repeat("0", 64)}
	for _, w := range wrong {
		for _, s := range []string{"fn main() { print @%@; }", "fn main() { print 1 + @%@; }", "fn main() { f(@%@); }", "fn main() { print x @%@; }", "@%@", "fn main() { @%@.v = 1; }"} {
			refused(t, "no number", api.ErrSource, strings.Replace(s, "%", w, 1))
		}
	}
	for _, s := range []string{"fn main() { print 1@-1@; }", "fn main() { print x@-1@; }", "fn main() { print 1 @2@; }", "fn main() { print 1.@5@; }", "fn main() { print @1A@; }", "fn main() { print 1 @A@; }", "fn main() { 5@;@ }"} {
		refused(t, "a number behind something", api.ErrSource, s)
	}
	taken(t, "a number right behind a sign", "fn main() { print(1)+-1; print 1<-1; print 1==-1; f(-1,-2); } fn f(a int,b int) { }")
	taken(t, "a sign right behind a number", "record r { v int; } fn main() { print 1+1; print 1<1; print 1==1; print 1; }")
}

// == is read where it can be; of = = there are two.
func TestSigns(t *testing.T) {
	taken(t, "==", "fn main() { print 1==1; print 1 ==1; print 1== 1; var x int=1; x=x==x; }")
	for _, s := range []string{"fn main() { print 1 @=@ =1; }", "fn main() { print 1 @=@ ==1; }", "fn main() { print 1 ==@=@ 1; }", "fn main() { x @==@ 1; }", "fn main() { var x int @==@ 1; }", "fn main() { x =@==@ 1; }", "fn main() { x = @=@ 1; }", "fn main() { x, y @==@ f(); }"} {
		refused(t, "signs", api.ErrSource, s)
	}
	refused(t, "the longest sign first", api.ErrSource, "fn main() { x @==@= 1; }")
}

// Each token's line is that of its first byte; the end's counts all bytes 10.
func TestLines(t *testing.T) {
	for before := range 4 {
		for after := range 4 {
			src := strings.Repeat("\n", before) + "fn main() { " + strings.Repeat("\n", after)
			refusedAt(t, src, api.ErrSource, 1+before+after)
			refusedAt(t, strings.Repeat("\n", before)+strings.Repeat("#\n", after), api.ErrName, 1+before+after)
			refusedAt(t, strings.Repeat("\r\n", before)+"fn main() {"+strings.Repeat(" \n\t", after)+"x = 1;\n }", api.ErrName, 1+before+after)
			refusedAt(t, strings.Repeat("\r", before)+"fn main() {"+strings.Repeat("\n", after)+"$\n\n", api.ErrSource, 1+after)
		}
	}
}
