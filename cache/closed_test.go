package cache_test

import (
	"fmt"
	"slices"
	"strings"
	"testing"

	"fugue/api"
	"fugue/cache"
	"fugue/code"
)

const (
	keeps  = "v1 = v0;return v1" // the stub of what gives back what it is given
	loses  = "return v1"         // of what gives back nothing of it
	lays   = "g0 = v0;return v1" // of what lays it into a global, and gives back nothing of it
	loads  = "v2 = v0.0;v1 = v2;return v1"
	itself = "return"
)

// Callees with one summary have one stub, whatever their code, and however often they are called.
func TestOneStubForOneSummary(t *testing.T) {
	caller := fn(1, 1, 3, "v1 = f1(v0);v2 = f2(v1);v1 = f1(v2);v1 = f3(v1);return v1")
	keys(t, "three callees with one summary", of(t, caller, fn(1, 1, 1, back), fn(1, 1, 2, keeps), fn(1, 1, 3, "v1 = v0;v2 = v1;return v2")),
		[]string{fn(1, 1, 1, back)}, []string{fn(1, 1, 2, keeps)}, []string{fn(1, 1, 3, "v1 = v0;v2 = v1;return v2")},
		[]string{fn(1, 1, 3, "v1 = f1(v0);v2 = f1(v1);v1 = f1(v2);v1 = f1(v1);return v1"), fn(1, 1, 2, keeps)})
}

// Several summaries stand in the order of the first calls, not in that of the callees' numbers or components; calls that no jump reaches count.
func TestOrderOfStubs(t *testing.T) {
	callees := []string{fn(1, 1, 1, back), fn(1, 1, 2, loses), fn(1, 1, 2, lays), fn(1, 1, 2, "v1 = v0.3;return v1")}
	own := [][]string{{callees[0]}, {callees[1]}, {callees[2]}, {callees[3]}}
	caller := fn(1, 1, 3, "v1 = f3(v0);v1 = f1(v0);v1 = f3(v1);return v1;v2 = f4(v0);v2 = f2(v0);return v2")
	closed := []string{fn(1, 1, 3, "v1 = f1(v0);v1 = f2(v0);v1 = f1(v1);return v1;v2 = f3(v0);v2 = f4(v0);return v2"),
		fn(1, 1, 2, lays), fn(1, 1, 2, keeps), fn(1, 1, 3, loads), fn(1, 1, 2, loses)}
	keys(t, "four summaries", of(t, append([]string{caller}, callees...)...), append(own, closed)...)
	shifted := strings.NewReplacer("f3", "f2", "f1", "f0", "f4", "f3", "f2", "f1").Replace(caller)
	keys(t, "their caller last", of(t, append(slices.Clone(callees), shifted)...), append(own, closed)...)
}

// A ring's functions stand in rising order, whatever stands between them; the stubs of its second behind those of its first.
func TestRings(t *testing.T) {
	p := of(t,
		fn(1, 1, 2, lays), // outside, first called by the ring's second
		fn(1, 1, 3, "if v0 jump 3;v1 = f3(v0);return v1;v1 = f2(v0);v1 = f4(v1);return v1"),
		fn(1, 1, 1, back), // outside, first called by the ring's first
		fn(1, 1, 2, "v1 = f0(v0);v1 = f4(v1);v1 = f2(v1);return v1"),
		fn(1, 1, 2, "v1 = f1(v0);v1 = f0(v1);return v0"),
	)
	keys(t, "a ring of three", p, []string{fn(1, 1, 2, lays)}, []string{fn(1, 1, 1, back)}, []string{
		fn(1, 1, 3, "if v0 jump 3;v1 = f1(v0);return v1;v1 = f3(v0);v1 = f2(v1);return v1"),
		fn(1, 1, 2, "v1 = f4(v0);v1 = f2(v1);v1 = f3(v1);return v1"),
		fn(1, 1, 2, "v1 = f0(v0);v1 = f4(v1);return v0"),
		fn(1, 1, 2, keeps), fn(1, 1, 2, lays)})
	keys(t, "one that calls itself", of(t, fn(0, 0, 0, itself), fn(1, 1, 2, "v1 = f1(v0);f0();return v0")),
		[]string{fn(0, 0, 0, itself)}, []string{fn(1, 1, 2, "v1 = f0(v0);f1();return v0"), fn(0, 0, 0, itself)})
}

// Programs with other globals have the same closed ones: as many as may be; all else of a function stays as it is.
func TestWhatStays(t *testing.T) {
	lines := "v0 = int -5;v1 = null;v2 = &v1;v2 = new 8;v2.7 = v0;v1 = v2.7;print v1;v0 = v1 + v2;v0 = v1 < v2;v0 = v1 == v2;if v0 jump 0;jump 12;return"
	for _, globals := range []int{0, 1, 16} {
		keys(t, "without globals", with(t, globals, fn(0, 0, 3, lines)), []string{fn(0, 0, 3, lines)})
	}
	lines = "v0 = g15;g15 = v0;g1 = v0;return"
	keys(t, "all globals", with(t, 16, fn(0, 0, 3, lines)), []string{fn(0, 0, 3, lines)})
	keys(t, "alike", of(t, fn(0, 0, 0, itself), fn(0, 0, 0, itself), fn(0, 0, 1, itself)), []string{fn(0, 0, 0, itself)}, []string{fn(0, 0, 1, itself)})
}

// called: the keys of a program in which one function calls others, each once, are the others' own, and that of the caller with such stubs.
func called(t *testing.T, what string, callees []string, calls, closed string, stubs ...string) {
	t.Helper()
	want := [][]string{append([]string{fn(2, 0, 6, closed)}, stubs...)}
	for _, c := range callees {
		want = append(want, []string{c})
	}
	keys(t, what, of(t, append([]string{fn(2, 0, 6, calls)}, callees...)...), want...)
}

// Stubs of each shape of summary that is small.
func TestSmallStubs(t *testing.T) {
	called(t, "without parameters and results", []string{fn(0, 0, 3, "v1 = v2;return")}, "f1();return", "f1();return", fn(0, 0, 0, "return"))
	called(t, "without parameters", []string{fn(0, 3, 1, "return v0, v0, v0")}, "v2, v3, v2 = f1();return", "v2, v3, v2 = f1();return", fn(0, 3, 3, "return v0, v1, v2"))
	called(t, "without results", []string{fn(2, 0, 3, "g1 = v1;return")}, "f1(v0, v1);return", "f1(v0, v1);return", fn(2, 0, 2, "g0 = v1;return"))
	called(t, "none throughout", []string{fn(2, 2, 3, "return v2, v2")}, "v2, v3 = f1(v0, v1);return", "v2, v3 = f1(v0, v1);return", fn(2, 2, 4, "return v2, v3"))
	called(t, "crosswise", []string{fn(2, 2, 2, "return v1, v0")}, "v2, v3 = f1(v0, v1);return", "v2, v3 = f1(v0, v1);return", fn(2, 2, 4, "v3 = v0;v2 = v1;return v2, v3"))
	called(t, "all to one", []string{fn(2, 1, 3, "v2 = v0;v2 = v1;g0 = v2;return v2")}, "v2 = f1(v0, v1);return", "v2 = f1(v0, v1);return", fn(2, 1, 3, "g0 = v0;v2 = v0;g0 = v1;v2 = v1;return v2"))
	called(t, "one, two and three loads", []string{fn(1, 2, 4, "v1 = v0.1;v2 = v1.2;v3 = v2.3;g1 = v2;return v1, v3")}, "v2, v3 = f1(v0);return", "v2, v3 = f1(v0);return",
		fn(1, 2, 9, "v3 = v0.0;v4 = v3.0;g0 = v4;v5 = v0.0;v1 = v5;v6 = v0.0;v7 = v6.0;v8 = v7.0;v2 = v8;return v1, v2"))
	called(t, "four loads are three", []string{fn(1, 0, 5, "v1 = v0.0;v2 = v1.0;v3 = v2.0;v4 = v3.0;g0 = v4;return")}, "f1(v0);return", "f1(v0);return",
		fn(1, 0, 4, "v1 = v0.0;v2 = v1.0;v3 = v2.0;g0 = v3;return"))
	called(t, "an address", []string{fn(1, 1, 2, "v1 = &v0;return v1")}, "v2 = f1(v0);return", "v2 = f1(v0);return", fn(1, 1, 2, "g0 = v0;v1 = v0;return v1"))
}

// Two shapes are two stubs, even where the numbers stand in the same order, or there are none.
func TestShapes(t *testing.T) {
	called(t, "no numbers", []string{fn(0, 0, 0, "return"), fn(0, 1, 1, "return v0"), fn(0, 2, 1, "return v0, v0")}, "f1();v2 = f2();v2, v3 = f3();v3 = f2();return", "f1();v2 = f2();v2, v3 = f3();v3 = f2();return",
		fn(0, 0, 0, "return"), fn(0, 1, 1, "return v0"), fn(0, 2, 2, "return v0, v1"))
	called(t, "two numbers", []string{fn(1, 1, 2, "return v1"), fn(2, 0, 2, "return")}, "v2 = f1(v0);f2(v0, v1);return", "v2 = f1(v0);f2(v0, v1);return",
		fn(1, 1, 2, "return v1"), fn(2, 0, 2, "return"))
	called(t, "one of two numbers", []string{fn(2, 0, 2, "g0 = v0;return"), fn(1, 1, 2, "g0 = v0;return v1"), fn(2, 0, 2, "g0 = v1;return"), fn(1, 1, 2, "return v0")},
		"f1(v0, v1);v2 = f2(v0);f3(v0, v1);v2 = f4(v0);return", "f1(v0, v1);v2 = f2(v0);f3(v0, v1);v2 = f4(v0);return",
		fn(2, 0, 2, "g0 = v0;return"), fn(1, 1, 2, "g0 = v0;return v1"), fn(2, 0, 2, "g0 = v1;return"), fn(1, 1, 2, "v1 = v0;return v1"))
}

// greatest: a function with as many parameters and results as may be, all of which flow everywhere, by so many loads.
func greatest(derefs int) api.Func {
	f := api.Func{Params: api.MaxParams, Results: api.MaxResults, Vars: api.MaxParams + 1 + derefs}
	for i := range api.MaxParams {
		f.Code = append(f.Code, api.Instr{Op: api.Copy, R: api.MaxParams, S: i})
	}
	last := api.MaxParams
	for ; last+1 < f.Vars; last++ {
		f.Code = append(f.Code, api.Instr{Op: api.Load, R: last + 1, S: last})
	}
	f.Code = append(f.Code, api.Instr{Op: api.Set, S: last}, ret(last, last, last, last))
	return f
}

// As many parameters and results as may be, with 0 to K derefs everywhere: a stub of 12 to 132 variables, with a Return behind as many as 160 instructions.
func TestGreatestStubs(t *testing.T) {
	for derefs := range api.MaxDeref + 1 {
		args, rets := []int{0, 1, 2, 3, 4, 5, 6, 7}, []int{8, 9, 10, 11}
		caller := api.Func{Vars: 12, Code: []api.Instr{call(1, args, rets), ret()}}
		c := cache.New()
		solves(t, "as much as may be", c, api.Program{Globals: 1, Funcs: []api.Func{caller, greatest(derefs)}}, 3)
		var lines []string
		next := 12
		for i := range 8 {
			for target := range 5 {
				v := i
				for range derefs {
					lines = append(lines, fmt.Sprintf("v%d = v%d.0", next, v))
					v = next
					next++
				}
				lines = append(lines, []string{"g0", "v8", "v9", "v10", "v11"}[target]+fmt.Sprintf(" = v%d", v))
			}
		}
		lines = append(lines, "return v8, v9, v10, v11")
		if next != 12+40*derefs || len(lines) != 40*(1+derefs)+1 {
			t.Fatalf("the test's stub has %d variables and %d instructions", next, len(lines))
		}
		stub := with(t, 16, fn(8, 4, next, strings.Join(lines, ";")))
		closed := encoded(t, api.Program{Globals: 16, Funcs: []api.Func{caller, stub.Funcs[0]}})
		if !slices.ContainsFunc(items(t, c), func(x item) bool { return x.key == closed }) {
			t.Errorf("P21.1: %d derefs everywhere: there is no key\n%s", derefs, told(stub))
		}
		if l := solved(t, stub).Sums; !alikeSum(l[0], solved(t, api.Program{Globals: 1, Funcs: []api.Func{greatest(derefs)}}).Sums[0]) {
			t.Errorf("P21.1: %d derefs everywhere: the stub's summary is %v", derefs, l)
		}
	}
}

// For every summary of up to two parameters and results there is a function; what calls it is closed by its stub, whose least summary is that one.
func TestEveryStub(t *testing.T) {
	t.Parallel()
	numbers := []int{0, 1, 2, 3, none}
	for _, shape := range []struct{ params, results int }{{1, 0}, {1, 1}, {2, 0}, {1, 2}, {2, 1}} {
		many := shape.params * (1 + shape.results)
		all := 1
		for range many {
			all *= len(numbers)
		}
		c := cache.New()
		for n := range all {
			s := api.Summary{}
			for range shape.params {
				s.Heap, n = append(s.Heap, numbers[n%5]), n/5
				var l []int
				for range shape.results {
					l, n = append(l, numbers[n%5]), n/5
				}
				s.Result = append(s.Result, l)
			}
			head := api.Func{Params: shape.params, Results: shape.results}
			stub := with(t, 16, plainStub(head, s))
			if l := solved(t, stub).Sums; !alikeSum(l[0], s) {
				t.Fatalf("the stub of %v has the summary %v", s, l[0])
			}
			p := with(t, 1, fn(0, 0, 4, "return"), plainStub(head, s))
			p.Funcs[0].Code = []api.Instr{call(1, []int{0, 1}[:shape.params], []int{2, 3}[:shape.results]), ret()}
			agreesOn(t, c, p)
			closed, e := code.Encode(api.Program{Globals: 16, Funcs: []api.Func{p.Funcs[0], stub.Funcs[0]}})
			if e != api.OK || !slices.ContainsFunc(items(t, c), func(x item) bool { return x.key == string(closed) }) {
				t.Fatalf("P21.1: no key with a stub for %v", s)
			}
		}
		if l := items(t, c); len(l) != 2*all {
			t.Errorf("P21.1: %d entries for %d summaries", len(l), all)
		}
	}
}

// agreesOn: what a cache comes to know of a program is what the words say, as far as the entries that it had are right.
func agreesOn(t *testing.T, c *cache.Cache, p api.Program) {
	t.Helper()
	agrees(t, "on any entries", c, plainOf(items(t, c)), p, &seen{})
}
