package shell_test

import (
	"encoding/hex"
	"fmt"
	"math/rand"
	"strings"
	"testing"

	"fugue/api"
	"fugue/code"
	"fugue/engine"
	"fugue/inline"
	"fugue/plan"
	"fugue/shell"
)

// several: three components of which two call nobody; all kinds of sites and numbers.
var several = of(1,
	fn(2, 1, 4, "v2 = f1(v0);v3 = new 2;f2(v3, v1);v2 = &v2;return v0"),
	fn(1, 1, 2, "v1 = v0.0;return v1"),
	fn(2, 0, 3, "g0 = v0;v2 = new 1;v2 = v1.0;v2 = v2.0;v2 = v2.0;v2 = v2.0;g0 = v2;return"))

func TestAnalyze(t *testing.T) {
	for _, text := range []string{keeps, several, of(0, twoCallOne()...)} {
		b, _ := code.Encode(read(t, text))
		steps := map[int]bool{}
		for workers := range 70 {
			for _, picks := range [][]int{nil, {0}, {1}, {-1}, {0, 1}, {1, 0, 1, 0}, {5, -5, 1<<63 - 1, -1 << 63, 3}, {0, 0, 0, 0, 0, 0, 0, 0, 0, 0, 1, 1, 1, 1}, {2, 2, 2, 2, 2, 2, 2, 2, 2, 2, 2}} {
				line := fmt.Sprint("analyze ", workers)
				for _, n := range picks {
					line += fmt.Sprint(" ", n)
				}
				r := engine.Analyze(b, workers, picks...)
				want := fmt.Sprintf("steps %d\n%s\n", r.Steps, hex.EncodeToString(r.Bytes))
				if workers < 1 || workers > api.MaxWorkers {
					want = "error 2 0\n"
				} else {
					steps[r.Steps] = true
				}
				answers(t, "P24.2: analyze", program(text)+line+"\n", fmt.Sprintf("ok %d\n%s", strings.Count(text, "func"), want))
			}
		}
		if len(steps) < 3 {
			t.Errorf("the test's own scripts: all runs do as many steps: %v", steps)
		}
	}
	answers(t, "P24.2: analyze by 999999999 workers", program(keeps)+"analyze 999999999 1\nanalyze 0 1 2\n", "ok 1\nerror 2 0\nerror 2 0\n")
}

// twoCallOne: three functions, two of which call the third.
func twoCallOne() []string {
	return []string{fn(0, 0, 1, "f2();return"), fn(0, 0, 1, "f2();return"), fn(0, 0, 0, "return")}
}

func TestHeapAndSums(t *testing.T) {
	for _, c := range []struct{ text, heap, sums string }{
		{of(0, nothing), "none\n", "0:\n"},
		{of(0, fn(1, 0, 3, "v1 = new 1;v2 = &v1;return"), nothing), "none\n", "0: -\n1:\n"},
		{of(1, fn(0, 0, 3, "v0 = &v1;g0 = v0;v0 = new 1;g0 = v0;v0 = new 2;v1 = new 3;v2 = new 4;v0 = &v0;return")), "0 var 0\n0 var 1\n0 new 2\n0 new 4\n0 new 5\n", "0:\n"},
		{of(1, nothing, fn(0, 1, 2, "v0 = new 1;v1 = new 1;return v1"), nothing, fn(1, 1, 3, "v1 = &v2;v2 = &v0;return v1")), "1 new 1\n3 var 0\n3 var 2\n", "0:\n1:\n2:\n3: 0,0\n"},
		{of(1, fn(8, 4, 8, "g0 = v7;v6 = v6.0;return v0, v1, v1, v6")), "none\n", "0: -,0,-,-,- -,-,0,0,- -,-,-,-,- -,-,-,-,- -,-,-,-,- -,-,-,-,- -,-,-,-,0 0,-,-,-,-\n"},
		{of(1, fn(2, 2, 4, "v2 = v0.0;v3 = v2.0;v3 = v3.0;v3 = v3.0;v3 = v3.0;g0 = v2;return v3, v2"), fn(1, 0, 1, "return"), fn(0, 3, 1, "return v0, v0, v0")), "none\n", "0: 1,2,1 -,-,-\n1: -\n2:\n"},
		{of(1, fn(0, 0, 0, strings.Repeat("f1();", 12)+"return"), fn(0, 0, 11, "v10 = &v10;g0 = v10;v9 = new 1;v9 = new 1;v9 = new 1;v9 = new 1;v9 = new 1;v9 = new 1;v9 = new 1;v9 = new 1;v10 = new 1;return")), "1 var 10\n1 new 10\n", "0:\n1:\n"},
	} {
		answers(t, "P24.2: heap and sums", program(c.text)+"heap\nsums\nheap\n", fmt.Sprintf("ok %d\n", strings.Count(c.text, "func"))+c.heap+c.sums+c.heap)
	}
}

func TestShowAndBytes(t *testing.T) {
	for seed := range 200 {
		p := anyProgram(rand.New(rand.NewSource(int64(seed))), 6)
		b, _ := code.Encode(p)
		text, word := printed(p), hex.EncodeToString(b)
		ok := fmt.Sprintf("ok %d\n", len(p.Funcs))
		answers(t, "P24.2: show and bytes of a text", program(loose(rand.New(rand.NewSource(int64(seed))), text))+"show\nbytes\n", ok+text+word+"\n")
		answers(t, "P24.2: show and bytes of bytes", "load "+word+"\nshow\nbytes\n", ok+text+word+"\n")
	}
}

// A run's cells lie where the result says, so that none dangles.
func TestRuns(t *testing.T) {
	for _, c := range []struct{ what, text, script, want string }{
		{"done, without results", of(0, nothing), "run 1\nrun 999999999\n", "done 1\ndone 1\n"},
		{"fuel", of(0, fn(0, 0, 1, "print v0;jump 0")), "run 0\nrun 1\nrun 2\nrun 5\n", "fuel 0\nprint nil\nfuel 1\nprint nil\nfuel 2\nprint nil\nprint nil\nprint nil\nfuel 5\n"},
		{"fuel that just suffices", of(0, fn(0, 1, 1, "v0 = int 7;return v0")), "run 1\nrun 2\nrun 3\n", "fuel 1\ndone 2 7\ndone 2 7\n"},
		{"nils", of(0, fn(1, 1, 2, "print v0;v1 = v0.0;return v1")), "run 9 nil\nrun 9 5\nrun 1 5\n", "print nil\nnils 2\nprint 5\nnils 2\nprint 5\nfuel 1\n"},
		{"nils of a Store", of(0, fn(1, 0, 1, "v0.0 = v0;return")), "run 9 -1\n", "nils 1\n"},
		{"fields", of(0, fn(0, 0, 2, "v0 = new 1;v1 = v0.1;return")), "run 9\n", "fields 2\n"},
		{"fields of a Store", of(0, fn(0, 0, 2, "v0 = &v1;v0.7 = v0;return")), "run 9\n", "fields 2\n"},
		{"a cell that would be gone", of(0, fn(0, 1, 2, "v0 = f1();v1 = v0.0;return v1"), fn(0, 1, 2, "v0 = int 5;v1 = &v0;return v1")), "run 9\nheap\n", "done 6 5\n1 var 0\n"},
		{"prints and results of each kind", of(1, fn(2, 4, 4, "v2 = &v2;print v2;print v0;print v1;v3 = new 8;print v3;g0 = v3;return v0, v1, v2, v3")), "run 9 nil -5\nrun 9 9223372036854775807 -9223372036854775808\nrun 9 0 nil\n",
			"print ptr\nprint nil\nprint -5\nprint ptr\ndone 8 nil -5 ptr ptr\nprint ptr\nprint 9223372036854775807\nprint -9223372036854775808\nprint ptr\ndone 8 9223372036854775807 -9223372036854775808 ptr ptr\nprint ptr\nprint 0\nprint nil\nprint ptr\ndone 8 0 nil ptr ptr\n"},
		{"as many arguments as there may be", of(0, fn(8, 4, 8, "print v7;print v6;print v5;print v4;return v3, v2, v1, v0")), "run 9 1 2 3 4 nil 6 7 8\n", "print 8\nprint 7\nprint 6\nprint nil\ndone 5 4 3 2 1\n"},
		{"sums wrap", of(0, fn(2, 1, 2, "v0 = v0 + v1;return v0")), "run 9 9223372036854775807 1\nrun 9 -9223372036854775808 -1\nrun 9 nil 4\n", "done 2 -9223372036854775808\ndone 2 9223372036854775807\ndone 2 4\n"},
		{"each run begins anew", of(1, fn(1, 1, 2, "v1 = g0;g0 = v0;return v1")), "run 9 5\nrun 9 6\n", "done 3 nil\ndone 3 nil\n"},
		{"prints of the calls", of(0, fn(0, 0, 1, "f1();f1();return"), fn(0, 0, 1, "v0 = int 3;print v0;return")), "run 9\nrun 7\n", "print 3\nprint 3\ndone 9\nprint 3\nprint 3\nfuel 7\n"},
	} {
		answers(t, "P24.2: run: "+c.what, program(c.text)+c.script, fmt.Sprintf("ok %d\n", strings.Count(c.text, "func"))+c.want)
	}
}

func TestHowManyArguments(t *testing.T) {
	for params := range api.MaxParams + 1 {
		script, want := program(of(0, fn(params, 0, 8, "return"))), "ok 1\n"
		for many := range 12 {
			for _, v := range []string{" nil", " 0", " -7"} {
				script += "run 5" + strings.Repeat(v, many) + "\nrun 0" + strings.Repeat(v, many) + "\n"
				if many == params {
					want += "done 1\nfuel 0\n"
				} else {
					want += "error 1\nerror 1\n"
				}
			}
		}
		answers(t, "P24.2: run: too few and too many arguments", script, want)
	}
}

func TestInline(t *testing.T) {
	two := of(1, fn(1, 1, 2, "v1 = f1(v0);v1 = f1(v1);v0 = f2(v1);return v1"), fn(1, 1, 2, "v1 = v0 + v0;return v1"), fn(1, 1, 2, "v1 = &v0;g0 = v1;return v1"))
	was := printed(read(t, two))
	sums := "0: -,-\n1: -,-\n2: 0,0\n"
	for _, l := range []string{"inline 0 2", "inline 0 3", "inline 0 4", "inline 0 999999999", "inline 3 0", "inline 999999999 0", "inline 0 0 0 0", "inline 0 1 0 0", "inline 1 0 0 0", "inline 0 0 0 2", "inline 0 0 0 1 0 2", "inline 1 0"} {
		answers(t, "P24.2: inline: no plan", program(two)+l+"\nshow\nsums\nheap\nrun 20 3\n", "ok 3\nerror 160\n"+was+sums+"2 var 0\ndone 11 12\n")
	}
	answers(t, "P24.2: inline without moves", program(two)+"inline\nshow\nsums\nheap\n inline \n", "ok 3\nok 3\n"+was+sums+"2 var 0\nok 3\n")
	answers(t, "P24.2: inline of an empty plan again and again", program(keeps)+strings.Repeat("inline\n", 50)+"sums\n", strings.Repeat("ok 1\n", 51)+"0: -,0\n")
	plays(t, "P24.2: inline, and the program behind it", "> "+strings.ReplaceAll(strings.TrimSuffix(program(two), "\n"), "\n", "\n> ")+`
		ok 3
		> inline 0 0 0 1
		ok 3
		> show
		globals 1
		func params 1 results 1 vars 6
		  v2 = v0
		  v3 = null
		  v3 = v2 + v2
		  v1 = v3
		  jump 5
		  v4 = v1
		  v5 = null
		  v5 = v4 + v4
		  v1 = v5
		  jump 10
		  v0 = f2(v1)
		  return v1
		func params 1 results 1 vars 2
		  v1 = v0 + v0
		  return v1
		func params 1 results 1 vars 2
		  v1 = &v0
		  g0 = v1
		  return v1
		> sums
		0: -,-
		1: -,-
		2: 0,0
		> heap
		2 var 0
		> run 20 3
		done 15 12
		> run 9 3
		fuel 9
		> run 9
		error 1
		> inline 0 0
		error 160
		> inline 0 10
		error 160
		> why 0 var 4
		error 180
		> bytes
		6675677565010103000101060c00010102020001010203000202001003030302020201030d05000204011005030504040201050d0a000b0200010101000f0101030100000f01010501000a01000f0101
		> analyze 0
		error 2 0
		> change
		> globals 1
		> func params 1 results 1 vars 2
		> v1 = &v0
		> return v1
		> func params 1 results 1 vars 2
		> v1 = v0 + v0
		> return v1
		> func params 1 results 1 vars 2
		> v1 = &v0
		> g0 = v1
		> return v1
		> end
		ok 3
		solved 0
		> heap
		0 var 0
		2 var 0
		> inline
		ok 3
		> run 9 5
		done 2 ptr`)
}

func TestWhy(t *testing.T) {
	text := of(1, fn(0, 0, 3, "v0 = &v1;f1(v0);v2 = new 2;v2 = new 1;g0 = v2;return"), fn(1, 0, 1, "g0 = v0;return"))
	for _, l := range []string{"why 0 var 0", "why 0 var 2", "why 1 var 0", "why 0 var 3", "why 0 var 999999999", "why 2 var 0", "why 999999999 var 0", "why 0 new 0", "why 0 new 1", "why 0 new 4", "why 0 new 5", "why 0 new 6", "why 1 new 0", "why 2 new 0", "why 0 new 999999999"} {
		answers(t, "P24.2: why: no such site, or one in the frame", program(text)+l+"\n", "ok 2\nerror 180\n")
	}
	told := shell.Run(program(text) + "why 0 var 1\n")
	if !strings.HasPrefix(told, "ok 2\nf") || !strings.HasSuffix(told, "\nf0: var 1 -> heap (-1) code 0\n") || !strings.Contains(told, "\nf0: var 0 -> heap (0) call 1\n") {
		t.Errorf("P24.2: why a variable: %q", told)
	}
	for _, at := range []string{"2", "3"} {
		told = shell.Run(program(text) + "why 0 new " + at + "\n")
		if !strings.HasPrefix(told, "ok 2\nf") || !strings.HasSuffix(told, "\nf0: new "+at+" -> heap (-1) code "+at+"\n") {
			t.Errorf("P24.2: why a New: %q", told)
		}
	}
}

// Behind inline each line is answered as it is of the program that follows, come as text or as bytes.
func TestBehindInline(t *testing.T) {
	moved := 0
	for seed := range 300 {
		r := rand.New(rand.NewSource(int64(4000 + seed)))
		p := anyProgram(r, 6)
		ms, _ := plan.Make(p, 10, 40)
		q, e := inline.Apply(p, ms...)
		if e != api.OK {
			t.Fatalf("the test's own plan: error %d", e)
		}
		line := "inline"
		for _, m := range ms {
			line += fmt.Sprintf(" %d %d", m.Func, m.At)
			moved++
		}
		b, _ := code.Encode(q)
		behind := "show\nbytes\nheap\nsums\nanalyze 2 1 0 1\nrun 100" + strings.Repeat(" 7", p.Funcs[0].Params) + "\nwhy " + anySite(r, q) + "\n" + line + "\ninline\n" + change(printed(anyChanged(r, q))) + "heap\nsums\n"
		ok := fmt.Sprintf("ok %d\n", len(p.Funcs))
		want := ok + shell.Run(program(printed(q))+behind)
		answers(t, "P24.2: behind inline", program(printed(p))+line+"\n"+behind, want)
		answers(t, "P24.2: the program that follows as bytes", program(printed(p))+"load "+hex.EncodeToString(b)+"\n"+behind, want)
	}
	if moved < 100 {
		t.Errorf("only %d moves", moved)
	}
}
