package weigh_test

import (
	"runtime/debug"
	"slices"
	"testing"

	"fugue/api"
)

// chain: each location flows to the one below it; the edges far from the location 0 are told last or first.
func chain(locations, derefs int, farFirst bool) []api.Edge {
	edges := make([]api.Edge, 0, locations)
	for l := 1; l < locations; l++ {
		edges = append(edges, e(l-1, l, derefs))
	}
	if farFirst {
		slices.Reverse(edges)
	}
	return edges
}

// A chain as long as there may be one, in a stack too small for a call each.
func TestLongChains(t *testing.T) {
	defer debug.SetMaxStack(debug.SetMaxStack(1 << 20))
	for _, farFirst := range []bool{false, true} {
		for d := -1; d <= api.MaxDeref; d++ {
			got := from(t, api.MaxLocs, chain(api.MaxLocs, d, farFirst), 0)
			for l, x := range got {
				if x != max(min(l*d, 3), -1) {
					t.Fatalf("P6.3: a chain with %d each: the location %d has %d", d, l, x)
				}
			}
		}
	}
}

// A ring as long as there may be one: one -1 in it makes all of it fall, round by round, from K on.
func TestLongRings(t *testing.T) {
	defer debug.SetMaxStack(debug.SetMaxStack(1 << 20))
	for _, farFirst := range []bool{false, true} {
		edges := chain(api.MaxLocs-1, 0, farFirst)
		edges = append(edges, e(api.MaxLocs-2, 0, -1), e(api.MaxLocs-1, 0, 3))
		got := from(t, api.MaxLocs, edges, api.MaxLocs-1)
		if got[0] != -1 || got[api.MaxLocs-1] != 0 {
			t.Fatalf("P6.3: a long ring: its first has %d, the root %d", got[0], got[api.MaxLocs-1])
		}
		for _, x := range got[1 : api.MaxLocs-1] {
			if x != 0 {
				t.Fatalf("P6.3: a long ring: %d in it", x)
			}
		}
	}
}

// Many edges into one location and out of one, and a great many between two.
func TestManyEdges(t *testing.T) {
	var in, out, twice []api.Edge
	for l := 1; l < api.MaxLocs; l++ {
		in = append(in, e(0, l, l%5-1))
		out = append(out, e(l, 0, 3-l%5))
		twice = append(twice, e(0, 1, 3), e(1, 0, 3))
	}
	for l, x := range from(t, api.MaxLocs, in, 0) {
		if l > 0 && x != l%5-1 || l == 0 && x != 0 {
			t.Fatalf("P6.3: many into one: the location %d has %d", l, x)
		}
	}
	if got := from(t, api.MaxLocs, out, api.MaxLocs-1, 4); got[0] != -1 || got[4] != 0 || got[5] != none {
		t.Errorf("P6.3: many out of one: %v", got[:6])
	}
	if got := from(t, 2, twice, 1); !slices.Equal(got, []int{3, 0}) {
		t.Errorf("P6.3: many between two: %v", got)
	}
}

// Each with each, so that there are far more edges than locations, and rings everywhere.
func TestEachWithEach(t *testing.T) {
	const n = 1200
	var edges []api.Edge
	for a := range n {
		for b := range n {
			edges = append(edges, e(a, b, 3))
		}
	}
	got := from(t, n, edges, 7)
	for l, x := range got {
		if l == 7 && x != 0 || l != 7 && x != 3 {
			t.Fatalf("P6.3: each with each: the location %d has %d", l, x)
		}
	}
	edges = append(edges, e(3, 3, -1))
	got = from(t, n, edges, 7)
	for l, x := range got {
		if l == 7 && x != 0 || l == 3 && x != -1 || l != 7 && l != 3 && x != 3 {
			t.Fatalf("P6.3: each with each, and a -1: the location %d has %d", l, x)
		}
	}
}

// Many roots, all of them twice.
func TestManyRoots(t *testing.T) {
	roots := make([]int, 2*api.MaxLocs)
	for i := range roots {
		roots[i] = i % api.MaxLocs
	}
	for l, x := range from(t, api.MaxLocs, chain(api.MaxLocs, 1, true), roots...) {
		if x != 0 {
			t.Fatalf("P6.3: all are roots: the location %d has %d", l, x)
		}
	}
}
