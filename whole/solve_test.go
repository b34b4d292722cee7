package whole_test

import (
	"testing"

	"fugue/api"
	"fugue/whole"
)

func unsolved(t *testing.T, p api.Program, want api.Errno) {
	t.Helper()
	if r, e := whole.Solve(p); e != want || !isNone(r) {
		t.Errorf("P10.3: Solve of a wrong program: %+v, error %d, want %d alone", r, e, want)
	}
	for _, picks := range orders {
		if r, e := whole.Anyhow(p, picks...); e != want || !isNone(r) {
			t.Errorf("P10.4: Anyhow of a wrong program: %+v, error %d, want %d alone", r, e, want)
		}
	}
}

func TestChapterExamples(t *testing.T) {
	f0 := fn(0, 0, 3, "v0 = &v1; v2 = f1(v0); return")
	solved(t, "example 1", of(t, f0, fn(1, 1, 1, "return v0")), "", sum(nil), one(none, 0))
	solved(t, "example 2", of(t, f0, fn(1, 1, 1, "g0 = v0; return v0")), "0 var 1", sum(nil), one(0, 0))
	p := of(t, fn(1, 1, 2, "v1 = f0(v0); return v1"))
	solved(t, "example 3", p, "", one(none, none))
	told(t, "example 3", p, []api.Summary{one(none, 0)}, true)
	told(t, "example 3", p, []api.Summary{one(none, 3)}, true)
}

// The examples of the document's first page that have an answer of the whole.
func TestDocumentExamples(t *testing.T) {
	least := api.Program{Funcs: []api.Func{{Code: []api.Instr{ret()}}}}
	solved(t, "example 1", least, "", sum(nil))
	solved(t, "example 2", of(t, fn(0, 0, 2, "v0 = f1(); v1 = v0.0; return"), fn(0, 1, 2, "v0 = int 5; v1 = &v0; return v1")), "1 var 0", sum(nil), sum(nil))
	main := fn(0, 0, 0, "return")
	solved(t, "example 3", of(t, main, fn(1, 1, 1, "return v0")), "", sum(nil), one(none, 0))
	solved(t, "example 3", of(t, main, fn(1, 1, 2, "v1 = v0.0; return v1")), "", sum(nil), one(none, 1))
	solved(t, "example 3", of(t, main, fn(1, 1, 1, "g0 = v0; return v0")), "", sum(nil), one(0, 0))
	solved(t, "example 3", of(t, main, fn(1, 1, 2, "v1 = &v0; return v1")), "1 var 0", sum(nil), one(0, 0))
	solved(t, "example 4", of(t, main, fn(0, 1, 3, "v0 = new 1; v1 = v0; v2 = &v1; return v2")), "1 var 1, 1 new 0", sum(nil), sum(nil))
	solved(t, "example 5", of(t, main, fn(1, 0, 2, "v1 = new 1; v0.0 = v1; return")), "1 new 0", sum(nil), sum([]int{none}, nil))
	solved(t, "example 6", of(t, main, fn(1, 0, 6, "v1 = v0.0; v2 = v1.0; v3 = v2.0; v4 = v3.0; v5 = v4.0; g0 = v5; return")), "", sum(nil), sum([]int{3}, nil))
	solved(t, "example 7", of(t, main, fn(1, 1, 2, "v1 = v0.0; v1 = f1(v1); return v1")), "", sum(nil), one(none, 1))
	solved(t, "example 7", of(t, main, fn(1, 0, 1, "f1(v0); return")), "", sum(nil), sum([]int{none}, nil))
}

func TestChains(t *testing.T) {
	down := of(t, fn(0, 0, 3, "v1 = new 1; v0 = &v1; v2 = f1(v0); return"),
		fn(1, 1, 2, "v1 = f2(v0); return v1"), fn(1, 1, 2, "v0 = v0.0; v1 = f3(v0); return v1"), fn(1, 1, 2, "g0 = v0; v1 = v0.1; return v1"))
	solved(t, "callees have greater numbers", down, "0 var 1, 0 new 0", sum(nil), one(0, 1), one(0, 1), one(0, 1))
	up := of(t, fn(0, 0, 3, "v1 = new 1; v0 = &v1; v2 = f3(v0); return"),
		fn(1, 1, 1, "g0 = v0; return v0"), fn(1, 1, 2, "v1 = v0.0; v1 = f1(v1); return v1"), fn(1, 1, 2, "v1 = f2(v0); return v1"))
	solved(t, "callees have lower numbers", up, "0 new 0", sum(nil), one(0, 0), one(1, 1), one(1, 1))
	twice := of(t, fn(2, 1, 3, "v2 = f1(v0); v2 = f1(v1); v2 = f2(v0); return v2"), fn(1, 1, 1, "return v0"), fn(1, 1, 2, "v1 = f1(v0); g1 = v1; return v1"))
	solved(t, "one that two call", twice, "", sum([]int{0, none}, []int{0}, []int{0}), one(none, 0), one(0, 0))
}

func TestRings(t *testing.T) {
	two := of(t, fn(0, 0, 3, "v0 = &v1; v2 = f1(v0); return"),
		fn(1, 1, 2, "v1 = f2(v0); return v1"), fn(1, 1, 2, "if v0 jump 3; v1 = f1(v0); return v1; g0 = v0; return v0"))
	solved(t, "two that call each other", two, "0 var 1", sum(nil), one(0, 0), one(0, 0))
	endless := of(t, fn(0, 0, 3, "v0 = &v1; v2 = f1(v0); return"), fn(1, 1, 2, "v1 = f2(v0); return v1"), fn(1, 1, 2, "v1 = f1(v0); return v1"))
	solved(t, "two that never come back", endless, "", sum(nil), one(none, none), one(none, none))
	first := of(t, fn(1, 1, 2, "v1 = f1(v0); return v1"), fn(1, 1, 2, "if v0 jump 3; v1 = f0(v0); return v1; v1 = v0.0; return v1"))
	solved(t, "function 0 in a ring", first, "", one(none, 1), one(none, 1))
	inner := of(t, fn(1, 1, 2, "v1 = f1(v0); return v1"),
		fn(1, 1, 3, "v1 = f2(v0); v2 = f1(v1); return v2"),
		fn(1, 1, 3, "if v0 jump 4; v1 = f3(v0); v2 = f1(v1); return v2; return v0"),
		fn(1, 1, 3, "v1 = &v2; v2 = f2(v0); g0 = v1; return v2"),
		fn(0, 1, 2, "v0 = new 1; v1 = f4(); v1 = f0(v0); return v1"))
	solved(t, "rings in a ring", inner, "3 var 2, 4 new 0", one(0, none), one(0, none), one(0, 0), one(0, 0), sum(nil))
}

func TestThoseThatCallThemselves(t *testing.T) {
	p := of(t, fn(1, 1, 2, "v1 = f0(v0); g0 = v1; return v0"))
	solved(t, "what comes back is seen in a second pass alone", p, "", one(0, 0))
	p = of(t, fn(4, 1, 5, "v4 = f0(v1, v2, v3, v3); g0 = v0; return v4"))
	solved(t, "one more with each pass", p, "", sum([]int{0, 0, 0, 0}, []int{none}, []int{none}, []int{none}, []int{none}))
	p = of(t, fn(1, 1, 3, "v1 = v0.0; v2 = f0(v1); if v0 jump 4; return v2; return v0"))
	solved(t, "derefs that grow say less", p, "", one(none, 0))
	p = of(t, fn(2, 1, 3, "v0 = v1.0; v2 = f0(v0, v0); if v0 jump 5; g0 = v0; return v2; return v0"))
	solved(t, "numbers that fall", p, "", sum([]int{0, 1}, []int{0}, []int{1}))
	p = of(t, fn(1, 1, 3, "v1 = new 1; v2 = f0(v1); v2.0 = v0; return v1"))
	solved(t, "a New in each", p, "0 new 0", one(0, none))
}

func TestWhatIsNotReached(t *testing.T) {
	p := of(t, fn(0, 0, 3, "return; v0 = &v1; v2 = f1(v0); jump 0"), fn(1, 1, 1, "jump 3; g0 = v0; jump 3; return v0"), fn(0, 0, 1, "f0(); v0 = new 1; g1 = v0; return"))
	solved(t, "code that no jump reaches, a function that nobody calls", p, "0 var 1, 2 new 1", sum(nil), one(0, 0), sum(nil))
}

// The other solutions of programs, and what is none: above, below, beside.
func TestSolutions(t *testing.T) {
	p := of(t, fn(1, 1, 2, "v1 = f0(v0); return v1"))
	for _, h := range []int{0, 1, 2, 3, none} {
		for _, d := range []int{0, 1, 2, 3, none} {
			told(t, "whatever it is given it gives", p, []api.Summary{one(h, d)}, true)
		}
	}
	p = of(t, fn(1, 1, 2, "v1 = f0(v0); if v0 jump 3; return v1; v1 = v0.0; return v1"))
	for _, h := range []int{0, 1, 2, 3, none} {
		for _, d := range []int{0, 1, 2, 3, none} {
			told(t, "at most 1 to its result", p, []api.Summary{one(h, d)}, d <= 1)
		}
	}
	p = of(t, fn(0, 0, 3, "v0 = &v1; v2 = f1(v0); return"), fn(1, 1, 2, "v1 = v0.0; return v1"))
	for _, h := range []int{0, 1, 2, 3, none} {
		for _, d := range []int{0, 1, 2, 3, none} {
			told(t, "one alone", p, []api.Summary{{}, one(h, d)}, h == none && d == 1)
		}
	}
	p = of(t, fn(1, 0, 1, "f1(v0); return"), fn(1, 0, 1, "f0(v0); return"))
	for _, a := range []int{0, 1, 2, 3, none} {
		for _, b := range []int{0, 1, 2, 3, none} {
			told(t, "two that are alike", p, []api.Summary{sum([]int{a}, nil), sum([]int{b}, nil)}, a == b)
		}
	}
}
