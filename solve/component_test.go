package solve_test

import (
	"slices"
	"strconv"
	"testing"

	"fugue/api"
	"fugue/solve"
)

func TestComponentsOfTheChapter(t *testing.T) {
	for _, c := range []struct {
		code   string
		result int
		asked  int
	}{
		{"v1 = f0(v0); return v1", none, 1},
		{"if v0 jump 3; v1 = f0(v0); return v1; return v0", 0, 2},
		{"if v0 jump 4; v1 = v0.0; v2 = f0(v1); return v2; return v0", 0, 2},
	} {
		p := of(t, fn(1, 1, 3, c.code))
		comes(t, c.code, p, graph(t, p), 0, lowest(p), c.asked, sum([]int{none}, []int{c.result}))
	}
}

// The rings of the whole's seventh example.
func TestRingsOfTheWhole(t *testing.T) {
	p := of(t, fn(0, 0, 0, "return"), fn(1, 1, 2, "v1 = v0.0; v1 = f1(v1); return v1"))
	comes(t, "what is handed back is less never", p, graph(t, p), 1, lowest(p), 2, sum([]int{none}, []int{1}))
	p = of(t, fn(0, 0, 0, "return"), fn(1, 0, 1, "f1(v0); return"))
	comes(t, "what a call alone would give", p, graph(t, p), 1, lowest(p), 1, sum([]int{none}, nil))
}

// One function, in no ring: asked once, and once more if its summary is not the lowest.
func TestOneAlone(t *testing.T) {
	p := of(t, fn(1, 1, 2, "v1 = f1(v0); return v1"), fn(1, 1, 1, "g0 = v0; return v0"), fn(0, 0, 0, "return"), fn(1, 1, 2, "return v1"))
	g := graph(t, p)
	sums := lowest(p)
	comes(t, "a callee", p, g, g.Of(1), sums, 2, sum([]int{0}, []int{0}))
	comes(t, "without a parameter", p, g, g.Of(2), sums, 1, api.Summary{})
	comes(t, "nothing flows", p, g, g.Of(3), sums, 1, every(p.Funcs[3], none))
	comes(t, "the callee's summary is the lowest", p, g, g.Of(0), sums, 1, every(p.Funcs[0], none))
	sums[1] = sum([]int{1}, []int{2})
	comes(t, "the callee's summary is as told", p, g, g.Of(0), sums, 2, sum([]int{1}, []int{2}))
}

// countdown: a ring of so many functions, each of which hands its parameter on and answers what comes back; the one at that place answers its parameter too. Each calls the next one (by step 1) or the one before (by step -1).
func countdown(t *testing.T, many, step, base int) api.Program {
	var funcs []string
	for n := range many {
		code := "v1 = f" + strconv.Itoa((n+step+many)%many) + "(v0); return v1"
		if n == base {
			code += "; return v0"
		}
		funcs = append(funcs, fn(1, 1, 2, code))
	}
	return of(t, funcs...)
}

// Each summary counts from the moment on at which it has changed: where each function calls the one before it, one round tells all; where each calls the next one, each round tells one.
func TestWhenASummaryCounts(t *testing.T) {
	for many := 1; many < 8; many++ {
		for base := range many {
			want := slices.Repeat([]api.Summary{sum([]int{none}, []int{0})}, many)
			// the base, then those behind it in this round, those ahead of it in the next one
			rounds := 2
			if base > 0 {
				rounds = 3
			}
			p := countdown(t, many, -1, base)
			comes(t, "each calls the one before", p, graph(t, p), 0, lowest(p), rounds*many, want...)
			// the base; then those ahead of it, one a round; then the last one, in the same round as the first, and so on
			rounds = many + 1
			if many > 1 && base < many-1 {
				rounds = many
			}
			p = countdown(t, many, 1, base)
			comes(t, "each calls the next", p, graph(t, p), 0, lowest(p), rounds*many, want...)
		}
	}
}

// Numbers fall step by step, round by round, until nothing changes; each round but the last has one that changed.
func TestManyRounds(t *testing.T) {
	// the first parameter is handed on as the second's place, so each round tells one parameter more
	p := of(t, fn(4, 0, 4, "f0(v1, v2, v3, v3); g0 = v0; return"))
	n := none
	comes(t, "parameters that change their places", p, graph(t, p), 0, lowest(p), 5, sum([]int{0, 0, 0, 0}, nil, nil, nil, nil))
	p = of(t, fn(3, 0, 5, "v3 = v1.0; f0(v3, v2, v2); g0 = v0; return"))
	comes(t, "behind loads", p, graph(t, p), 0, lowest(p), 4, sum([]int{0, 1, 1}, nil, nil, nil))
	// by itself and by another: what comes round has fewer loads
	p = of(t, fn(2, 1, 5, "v2 = v0.0; v2 = v2.0; v2 = f0(v1, v1); v3 = f0(v1, v0); return v2; return v3"))
	comes(t, "a result", p, graph(t, p), 0, lowest(p), 3, sum([]int{n, n}, []int{1}, []int{1}))
	p = of(t, fn(2, 1, 4, "v2 = v0.0; v3 = v2.0; return v3; v3 = f1(v1, v0); return v3"), fn(2, 1, 3, "v2 = f0(v0, v1); return v2; return v1"))
	comes(t, "two functions", p, graph(t, p), 0, lowest(p), 8, sum([]int{n, n}, []int{0}, []int{0}), sum([]int{n, n}, []int{0}, []int{0}))
}

// Of a ring all summaries are told, rising, whatever the numbers of its functions; other rings are not touched.
func TestMembersAmongOthers(t *testing.T) {
	n := none
	p := of(t,
		fn(0, 0, 1, "v0 = f3(v0); return"),
		fn(2, 1, 3, "v2 = f5(v0); return v2; return v1"),
		fn(1, 1, 2, "v1 = v0.0; return v1"),
		fn(1, 1, 2, "v1 = f1(v0, v0); return v1"),
		fn(1, 0, 1, "f4(v0); g0 = v0; return"),
		fn(1, 1, 3, "v2 = f2(v0); v1 = f3(v2); f4(v1); return v1"))
	g := graph(t, p)
	sums := lowest(p)
	sums[2], sums[4] = sum([]int{n}, []int{1}), sum([]int{0}, nil)
	c := g.Of(1)
	if l := g.Members(c); !slices.Equal(l, []int{1, 3, 5}) {
		t.Fatalf("the members: %v", l)
	}
	// f1's second parameter comes back as it is; f3 hands its own on to both; f5 laid behind a load, and its outcome into the heap
	want := []api.Summary{sum([]int{1, n}, []int{1}, []int{0}), sum([]int{1}, []int{0}), sum([]int{1}, []int{1})}
	comes(t, "one ring of several", p, g, c, sums, 9, want...)
}

// What is said of the component's own functions makes no difference, be it right or not.
func TestWhatSumsSaysOfTheMembers(t *testing.T) {
	p := countdown(t, 3, 1, 1)
	g := graph(t, p)
	want, asked, _ := solve.Component(p, g, 0, lowest(p))
	for _, s := range []api.Summary{{}, every(p.Funcs[0], 0), every(p.Funcs[0], 3), every(p.Funcs[0], -1), every(p.Funcs[0], 4), every(api.Func{Params: 9, Results: 9}, 0), {Heap: []int{0}}} {
		comes(t, "a stranger's summary", p, g, 0, []api.Summary{s, s, s}, asked, want...)
		comes(t, "a stranger's summary", p, g, 0, []api.Summary{want[0], s, want[2]}, asked, want...)
	}
}

// A graph of another program is one as any: its components are lists of functions.
func TestGraphOfAnotherProgram(t *testing.T) {
	n := none
	p := of(t, fn(1, 1, 2, "v1 = f1(v0); return v1"), fn(1, 1, 1, "g0 = v0; return v0"), fn(1, 1, 2, "v1 = f0(v0); return v1"))
	zero := sum([]int{0}, []int{0})
	ring := graph(t, countdown(t, 3, 1, 0))
	comes(t, "three in no ring as one", p, ring, 0, lowest(p), 9, zero, zero, zero)
	two := graph(t, countdown(t, 2, 1, 0))
	comes(t, "two in no ring as one", p, two, 0, lowest(p), 6, zero, zero)
	alone := graph(t, of(t, fn(0, 0, 0, "return"), fn(0, 0, 0, "return"), fn(0, 0, 0, "return")))
	comes(t, "each for itself", p, alone, 0, []api.Summary{{}, sum([]int{2}, []int{n}), {}}, 2, sum([]int{2}, []int{n}))
	comes(t, "each for itself", p, alone, 2, lowest(p), 1, sum([]int{n}, []int{n}))
	// two that call each other, each for itself: by what is said of the other
	p = countdown(t, 2, 1, 0)
	comes(t, "a ring, each for itself", p, alone, 1, []api.Summary{sum([]int{n}, []int{2}), {}}, 2, sum([]int{n}, []int{2}))
	comes(t, "a ring, each for itself", p, alone, 0, []api.Summary{{}, sum([]int{3}, []int{n})}, 2, sum([]int{3}, []int{0}))
}
