package weigh_test

import (
	"math"
	"slices"
	"testing"

	"fugue/api"
)

func TestGraphsOfTheChapter(t *testing.T) {
	weighs(t, "example 2", []int{0, 0, 1, 0}, []api.Edge{e(0, 1, 0), e(1, 2, 1), e(2, 3, -1)}, 0)
	weighs(t, "example 3", []int{0, -1}, []api.Edge{e(0, 1, 0), e(1, 1, -1)}, 0)
	weighs(t, "example 3, no edges", []int{none, 0, none}, nil, 1, 1)
	weighs(t, "example 4", []int{0, 2, 3, 2}, []api.Edge{e(0, 1, 2), e(1, 2, 2), e(2, 3, -1)}, 0)
	refused(t, "example 5, no such Src", 2, []api.Edge{e(0, 2, 0)})
	refused(t, "example 5, derefs 4", 2, []api.Edge{e(0, 1, 4)})
	refused(t, "example 5, derefs None", 2, []api.Edge{e(0, 1, none)})
	refused(t, "example 5, no such root", 0, nil, 0)
	refused(t, "example 5, locations -1", -1, nil)
	weighs(t, "example 5, nothing", nil, nil)
}

func TestLocationsOutOfRange(t *testing.T) {
	for _, n := range []int{-1, -2, -1 << 40, math.MinInt, api.MaxLocs + 1, api.MaxLocs + 2, 1 << 32, 1<<32 + 1, math.MaxInt} {
		refused(t, "locations out of range", n, nil)
		refused(t, "locations out of range, with a graph", n, []api.Edge{e(0, 0, 0)}, 0)
	}
	for _, n := range []int{0, 1, 2, api.MaxLocs - 1, api.MaxLocs} {
		if got := from(t, n, nil); slices.ContainsFunc(got, func(d int) bool { return d != none }) {
			t.Errorf("P6.3: %d locations without roots: one has a weight", n)
		}
	}
}

// outside: numbers that are no locations of so many.
func outside(locations int) []int {
	return []int{-1, -2, locations, locations + 1, -1 << 32, 1 << 32, math.MinInt, math.MaxInt}
}

func TestEdgesOutOfRange(t *testing.T) {
	good := e(0, 1, 0)
	for _, n := range []int{2, 3, 700} {
		for _, l := range outside(n) {
			for _, bad := range []api.Edge{e(l, 0, 0), e(0, l, 0), e(l, l, 0)} {
				refused(t, "an edge out of range", n, []api.Edge{bad}, 0)
				refused(t, "the first edge out of range", n, []api.Edge{bad, good, good}, 0)
				refused(t, "one edge out of range", n, []api.Edge{good, bad, good}, 0)
				refused(t, "the last edge out of range", n, []api.Edge{good, good, bad}, 0)
				refused(t, "an edge out of range that no root sees", n, []api.Edge{bad})
			}
		}
	}
	refused(t, "an edge of no locations", 0, []api.Edge{e(0, 0, 0)})
	weighs(t, "the highest locations", []int{none, 1, 0}, []api.Edge{e(2, 1, 1), e(1, 2, 3)}, 2)
	weighs(t, "the lowest locations", []int{0, 1, none}, []api.Edge{e(0, 1, 1), e(1, 0, 3)}, 0)
}

func TestDerefsOutOfRange(t *testing.T) {
	good := e(0, 1, 0)
	for _, d := range append(strangers(), none) {
		bad := e(0, 1, d)
		refused(t, "derefs out of range", 2, []api.Edge{bad}, 0)
		refused(t, "derefs out of range, behind a right edge", 2, []api.Edge{good, bad}, 0)
		refused(t, "derefs out of range, ahead of a right edge", 2, []api.Edge{bad, good}, 0)
		refused(t, "derefs out of range that no root sees", 2, []api.Edge{bad})
	}
	for d := -1; d <= api.MaxDeref; d++ {
		weighs(t, "each number of derefs", []int{0, d}, []api.Edge{e(0, 1, d)}, 0)
	}
}

func TestRootsOutOfRange(t *testing.T) {
	for _, n := range []int{1, 2, 700} {
		for _, l := range outside(n) {
			refused(t, "a root out of range", n, nil, l)
			refused(t, "the first root out of range", n, nil, l, 0, 0)
			refused(t, "one root out of range", n, nil, 0, l, 0)
			refused(t, "the last root out of range", n, nil, 0, 0, l)
		}
	}
	for _, l := range outside(0) {
		refused(t, "a root of no locations", 0, nil, l)
	}
	weighs(t, "the highest root", []int{none, none, 0}, nil, 2)
	weighs(t, "the lowest root", []int{0, none, none}, nil, 0)
}

func TestNothing(t *testing.T) {
	weighs(t, "no locations", nil, []api.Edge{}, []int{}...)
	weighs(t, "no roots", []int{none, none}, []api.Edge{e(0, 1, 0), e(1, 1, -1)})
	weighs(t, "no roots, an empty list", []int{none, none}, []api.Edge{e(0, 1, -1)}, []int{}...)
	weighs(t, "no edges", []int{0, none}, []api.Edge{}, 0)
}

func TestTwiceThere(t *testing.T) {
	edges := []api.Edge{e(0, 1, 1), e(1, 2, -1), e(0, 2, 3)}
	weighs(t, "once", []int{0, 1, 0}, edges, 0)
	weighs(t, "edges twice", []int{0, 1, 0}, slices.Concat(edges, edges), 0)
	weighs(t, "roots twice", []int{0, 1, 0}, edges, 0, 0, 0)
	weighs(t, "two weights for one pair", []int{0, 1}, []api.Edge{e(0, 1, 3), e(0, 1, 1), e(0, 1, 2)}, 0)
	weighs(t, "more roots than locations", []int{0, 0}, nil, 1, 0, 1, 0, 1, 0)
}

func TestRings(t *testing.T) {
	weighs(t, "a root's own edge with -1", []int{-1}, []api.Edge{e(0, 0, -1)}, 0)
	for d := 0; d <= api.MaxDeref; d++ {
		weighs(t, "a root's own edge", []int{0}, []api.Edge{e(0, 0, d)}, 0)
	}
	weighs(t, "a root's own edge, and another", []int{-1, 2}, []api.Edge{e(0, 0, -1), e(0, 1, 2)}, 0)
	weighs(t, "a way round that makes a root -1", []int{-1, 0, -1}, []api.Edge{e(0, 1, 0), e(1, 2, -1), e(2, 0, -1)}, 0)
	weighs(t, "a way round that makes no root -1", []int{0, 1, 1}, []api.Edge{e(0, 1, 1), e(1, 0, -1), e(1, 2, 0)}, 0)
	weighs(t, "round and round down from K", []int{0, 0, -1}, []api.Edge{e(0, 1, 3), e(1, 2, -1), e(2, 1, 0)}, 0)
	weighs(t, "round and round down from K, by itself", []int{0, -1, 0}, []api.Edge{e(0, 1, 3), e(1, 1, -1), e(1, 2, 0)}, 0)
	weighs(t, "a ring that rises", []int{0, 1, 2}, []api.Edge{e(0, 1, 1), e(1, 2, 1), e(2, 1, 1)}, 0)
	weighs(t, "a ring without a root", []int{none, none, 0}, []api.Edge{e(0, 1, -1), e(1, 0, -1)}, 2)
}

func TestTheMostThatIsTold(t *testing.T) {
	weighs(t, "K and more", []int{0, 3, 3, 3}, []api.Edge{e(0, 1, 3), e(1, 2, 3), e(2, 3, 1)}, 0)
	weighs(t, "K - 1 behind K or more", []int{0, 3, 3, 3, 2, 1, 0, -1, -1}, []api.Edge{e(0, 1, 3), e(1, 2, 3), e(2, 3, 3), e(3, 4, -1), e(4, 5, -1), e(5, 6, -1), e(6, 7, -1), e(7, 8, -1)}, 0)
	weighs(t, "one by one to K", []int{0, 1, 2, 3, 3, 3}, []api.Edge{e(0, 1, 1), e(1, 2, 1), e(2, 3, 1), e(3, 4, 1), e(4, 5, 1)}, 0)
}

func TestFromTheRootOn(t *testing.T) {
	weighs(t, "-1, then 1", []int{0, -1, 1}, []api.Edge{e(0, 1, -1), e(1, 2, 1)}, 0)
	weighs(t, "1, then -1", []int{0, 1, 0}, []api.Edge{e(0, 1, 1), e(1, 2, -1)}, 0)
	weighs(t, "-1, then 0", []int{0, -1, 0}, []api.Edge{e(0, 1, -1), e(1, 2, 0)}, 0)
	weighs(t, "an edge is gone from its Dst to its Src", []int{none, 0}, []api.Edge{e(0, 1, 0)}, 1)
}

func TestTheLeastOfAllWays(t *testing.T) {
	weighs(t, "the longer way is the less one", []int{0, 1, 1, 1}, []api.Edge{e(0, 1, 3), e(0, 2, 1), e(2, 1, 0), e(1, 3, 0)}, 0)
	weighs(t, "the nearer root", []int{0, 2, 3, 0, none}, []api.Edge{e(0, 1, 2), e(1, 2, 2), e(3, 2, 3), e(3, 3, 1)}, 0, 3)
	weighs(t, "a root with a way to another", []int{0, -1, 1}, []api.Edge{e(0, 1, -1), e(1, 2, 1)}, 1, 0)
	weighs(t, "without a way", []int{none, none, 0}, []api.Edge{e(0, 1, 1), e(1, 0, -1)}, 2)
	weighs(t, "the wrong way round", []int{none, none, 0}, []api.Edge{e(0, 2, 0), e(1, 2, -1)}, 2)
}
