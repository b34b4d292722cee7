package solve_test

import (
	"slices"
	"testing"

	"fugue/api"
	"fugue/flow"
	"fugue/solve"
)

// The chapter's examples: one function, one parameter. The locations: the heap, the result, then the variables from 2 on.
func TestFunctionsOfTheChapter(t *testing.T) {
	for _, c := range []struct {
		code         string
		heap, result int
		escape       []int
	}{
		{"v1 = &v0; return v1", 0, 0, []int{2}},
		{"return v0", none, 0, nil},
		{"v1 = v0.0; return v1", none, 1, nil},
		{"v1 = v0.0; v2 = v1.0; v3 = v2.0; v4 = v3.0; return v4", none, 3, nil},
		{"g0 = v0; return v4", 0, none, nil},
		{"v1 = v0.0; g0 = v1; return v4", 1, none, nil},
		{"v1 = new 1; v2 = &v1; v2.0 = v0; return v0", 0, 0, nil},
		{"v1 = new 1; v2 = new 1; v1.0 = v2; return v1", none, none, []int{7, 8}},
	} {
		p := of(t, fn(1, 1, 5, c.code))
		solves(t, c.code, p, 0, lowest(p), c.escape, sum([]int{c.heap}, []int{c.result}))
	}
}

// A location escapes to the heap, to each of the results, by way of another one that escapes, and by nothing else.
func TestWhatEscapes(t *testing.T) {
	for _, c := range []struct {
		code   string
		escape []int // the results are 1 and 2, the variables 3 to 7, the News from 8 on
	}{
		{"v0 = &v1; g1 = v0; return v4, v4", []int{4}},
		{"v0 = &v1; v2.3 = v0; return v4, v4", []int{4}},
		{"v0 = &v1; return v0, v4", []int{4}},
		{"v0 = &v1; return v4, v0", []int{4}},
		{"v0 = &v1; return v4, v4", nil},
		{"v0 = &v1; v2 = v0; v3 = v2; g0 = v3; return v4, v4", []int{4}},
		{"g0 = v3; v3 = v2; v2 = v0; v0 = &v1; return v4, v4", []int{4}},
		{"v0 = new 2; g0 = v0; return v4, v4", []int{8}},
		{"v0 = new 2; v0 = new 3; g0 = v0; return v4, v4", []int{8, 9}},
		{"v0 = new 2; v1 = new 3; g0 = v1; return v4, v4", []int{9}},
		{"g0 = v1; return v4, v4; v1 = new 3; jump 0", []int{8}},
		// by way of another: its address lies in one that escapes, or in one into which that one's address was laid
		{"v0 = &v1; v1 = &v2; g0 = v0; return v4, v4", []int{4, 5}},
		{"v1 = &v2; v0 = &v1; g0 = v0; return v4, v4", []int{4, 5}},
		{"v0 = &v1; v1 = &v2; v2 = &v3; v3 = new 1; return v0, v4", []int{4, 5, 6, 8}},
		{"v3 = new 1; v2 = &v3; v1 = &v2; v0 = &v1; return v4, v0", []int{4, 5, 6, 8}},
		{"v0 = &v1; v2 = &v3; v1 = v2; g0 = v0; return v4, v4", []int{4, 6}},
		{"v0 = new 1; v1 = v0; v2 = &v1; return v2, v4", []int{4, 8}},
		{"v0 = &v1; v1 = &v0; g0 = v0; return v4, v4", []int{3, 4}},
		{"v0 = &v0; g0 = v0; return v4, v4", []int{3}},
		{"v0 = &v0; return v4, v4", nil},
		{"v0 = &v1; v1 = &v2; v3 = v1; return v4, v4", nil},
		{"v0 = &v1; v1 = &v2; g0 = v1; return v4, v4", []int{5}},
		// what lies behind a pointer is not the pointer
		{"v0 = &v1; v2 = v0.0; g0 = v2; return v4, v4", nil},
		{"v0 = &v1; v1 = &v2; v3 = v0.0; g0 = v3; return v4, v4", []int{5}},
		{"v0 = &v1; v1 = &v2; v2 = new 1; v3 = v0.0; v4 = v3.0; return v4, v4", []int{8}},
		{"v0 = new 1; v1 = v0.0; return v1, v1", nil},
		// what is stored into escapes not
		{"v0 = new 1; v1 = new 1; v0.0 = v1; return v4, v4", []int{9}},
		{"v0 = &v1; v0.0 = v2; return v4, v4", nil},
		{"v0 = &v1; print v0; v2 = v0 + v0; v2 = v0 == v0; v3 = null; v3 = g0; return v2, v3", nil},
	} {
		p := of(t, fn(0, 2, 5, c.code))
		solves(t, c.code, p, 0, lowest(p), c.escape, api.Summary{})
	}
}

// By each location there is an answer, the heap's and the results' false though all flows there.
func TestOneAnswerALocation(t *testing.T) {
	for results := range api.MaxResults + 1 {
		back := "return"
		for j := range results {
			back += []string{" v0", ", v0"}[min(j, 1)]
		}
		code := "v0 = &v0; v1 = new 1; g0 = v1; " + back
		p := of(t, fn(2, results, 3, code))
		escapes, _, e := solve.Function(p, 0, lowest(p))
		want := make([]bool, flow.Locations(p.Funcs[0]))
		want[1+results] = results > 0
		want[len(want)-1] = true
		if e != api.OK || !slices.Equal(escapes, want) {
			t.Errorf("P8.1: %s: %v, error %d, want %v", code, escapes, e, want)
		}
	}
}

// The numbers of a summary, of two parameters and two results.
func TestSummaries(t *testing.T) {
	n := none
	for _, c := range []struct {
		code   string
		escape []int // the variables are 3 to 8
		want   api.Summary
	}{
		{"return v1, v0", nil, sum([]int{n, n}, []int{n, 0}, []int{0, n})},
		{"return v0, v0", nil, sum([]int{n, n}, []int{0, 0}, []int{n, n})},
		{"g0 = v1; return v5, v5", nil, sum([]int{n, 0}, []int{n, n}, []int{n, n})},
		{"v0 = v1; return v0, v1", nil, sum([]int{n, n}, []int{0, n}, []int{0, 0})},
		{"v2 = v0.0; v3 = v2.1; g0 = v3; return v2, v5", nil, sum([]int{2, n}, []int{1, n}, []int{n, n})},
		{"v2 = v0.0; v3 = v2.1; v4 = v3.1; v5 = v4.1; v5 = v5.1; g0 = v5; return v4, v5", nil, sum([]int{3, n}, []int{3, 3}, []int{n, n})},
		// the fewest of several ways
		{"v2 = v0.0; v2 = v0; g0 = v2; return v5, v2", nil, sum([]int{0, n}, []int{n, 0}, []int{n, n})},
		{"v2 = v0.0; v3 = v2.0; v3 = v1; g1 = v3; v0 = v1.0; return v2, v3", nil, sum([]int{2, 0}, []int{1, 2}, []int{2, 0})},
		// an address behind a load is what was there
		{"v2 = &v0; v3 = v2.0; return v3, v5", nil, sum([]int{n, n}, []int{0, n}, []int{n, n})},
		{"v2 = &v0; v3 = v2.0; v4 = v3.0; g0 = v4; return v5, v5", nil, sum([]int{1, n}, []int{n, n}, []int{n, n})},
		// one that escapes: what was passed lies there; to a result its address is told as 0
		{"v2 = &v0; g0 = v2; return v5, v5", []int{3}, sum([]int{0, n}, []int{n, n}, []int{n, n})},
		{"v2 = &v0; return v5, v2", []int{3}, sum([]int{0, n}, []int{n, 0}, []int{n, n})},
		{"v2 = &v0; v3 = &v2; return v3, v5", []int{3, 5}, sum([]int{0, n}, []int{0, n}, []int{n, n})},
		// what flows into one that escapes flows to the heap, to the result by its own ways alone
		{"v2 = &v3; v3 = v0; return v2, v5", []int{6}, sum([]int{0, n}, []int{0, n}, []int{n, n})},
		{"v2 = &v3; v3 = v0.0; g0 = v2; return v5, v5", []int{6}, sum([]int{1, n}, []int{n, n}, []int{n, n})},
		{"v2 = &v3; v3 = v0.0; v4 = v2.0; v5 = v4.0; return v5, v2", []int{6}, sum([]int{1, n}, []int{2, 1}, []int{n, n})},
		{"v2 = &v1; v1 = v0; g1 = v2; return v1, v5", []int{4}, sum([]int{0, 0}, []int{0, n}, []int{0, n})},
		// nothing is there where nothing flows
		{"v2 = new 1; v3 = v0 + v1; v2.0 = v3; return v2, v3", []int{9}, every(api.Func{Params: 2, Results: 2}, n)},
		{"v0.0 = v2; v1.3 = v2; return v2, v2", nil, every(api.Func{Params: 2, Results: 2}, n)},
		{"return v2, v3; g0 = v0; return v0, v1", nil, sum([]int{0, n}, []int{0, n}, []int{n, 0})},
	} {
		p := of(t, fn(2, 2, 6, c.code))
		solves(t, c.code, p, 0, lowest(p), c.escape, c.want)
	}
}

// A callee's numbers: from the argument to the heap and to what is returned.
func TestCallees(t *testing.T) {
	n := none
	p := of(t, fn(1, 1, 4, "v1 = &v2; v3 = f1(v1); v0 = f1(v0); return v3"), fn(1, 1, 1, "return v0"))
	for _, c := range []struct {
		heap, result int
		escape       []int // the variables are 2 to 5
		want         api.Summary
	}{
		{n, n, nil, sum([]int{n}, []int{n})},
		{0, n, []int{4}, sum([]int{0}, []int{n})},
		{1, n, nil, sum([]int{1}, []int{n})},
		{3, n, nil, sum([]int{3}, []int{n})},
		{n, 0, []int{4}, sum([]int{n}, []int{n})},
		{n, 1, nil, sum([]int{n}, []int{n})},
		{2, 0, []int{4}, sum([]int{2}, []int{n})},
	} {
		sums := []api.Summary{{}, sum([]int{c.heap}, []int{c.result})}
		solves(t, "a callee's summary", p, 0, sums, c.escape, c.want)
	}
	// at most K in all
	p = of(t, fn(1, 1, 3, "v1 = f1(v0); v2 = f1(v1); g0 = v2; return v1"), fn(1, 1, 1, "return v0"))
	for d, want := range map[int][]int{0: {0, 0}, 1: {2, 1}, 2: {3, 2}, 3: {3, 3}, n: {n, n}} {
		solves(t, "a callee called twice", p, 0, []api.Summary{{}, sum([]int{n}, []int{d})}, nil, sum([]int{want[0]}, []int{want[1]}))
	}
	// itself as any other, by what is said of it
	p = of(t, fn(1, 1, 2, "v1 = f0(v0); return v1"))
	for _, d := range []int{0, 1, 2, 3, n} {
		solves(t, "itself", p, 0, []api.Summary{sum([]int{d}, []int{d})}, nil, sum([]int{d}, []int{d}))
	}
	// a callee that stands for several results and parameters
	p = of(t, fn(2, 2, 4, "v2, v3 = f1(v0, v1); return v2, v3"), fn(2, 2, 2, "return v0, v1"))
	s := sum([]int{n, 3}, []int{1, n}, []int{2, 0})
	solves(t, "a callee's numbers handed on", p, 0, []api.Summary{{}, s}, nil, s)
}
