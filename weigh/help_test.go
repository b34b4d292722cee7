package weigh_test

import (
	"math"
	"math/rand"
	"slices"
	"testing"

	"fugue/api"
	"fugue/weigh"
)

const none = api.None

// weights: all of them, in their order.
func weights() []int { return []int{-1, 0, 1, 2, 3, none} }

// strangers: numbers that are no weights.
func strangers() []int {
	return []int{-2, -3, -9, 4, 5, 8, 10, 255, 1 << 32, 1<<32 + 1, -1 << 32, -1 << 62, 1 << 62, math.MinInt, math.MinInt + 1, math.MaxInt - 1, math.MaxInt}
}

func e(dst, src, derefs int) api.Edge { return api.Edge{Dst: dst, Src: src, Derefs: derefs} }

// from: the weights of a graph that may be.
func from(t *testing.T, locations int, edges []api.Edge, roots ...int) []int {
	t.Helper()
	got, err := weigh.From(locations, edges, roots...)
	if err != api.OK || len(got) != locations {
		t.Fatalf("P6.3: From(%d, .. %d edges, %d roots): %d weights, error %d", locations, len(edges), len(roots), len(got), err)
	}
	return got
}

func weighs(t *testing.T, what string, want []int, edges []api.Edge, roots ...int) {
	t.Helper()
	if got := from(t, len(want), edges, roots...); !slices.Equal(got, want) {
		t.Errorf("P6.3: %s: From(%d, %v, %v): %v, want %v", what, len(want), edges, roots, got, want)
	}
}

func refused(t *testing.T, what string, locations int, edges []api.Edge, roots ...int) {
	t.Helper()
	if got, err := weigh.From(locations, edges, roots...); err != api.ErrArg || len(got) != 0 {
		t.Errorf("P6.3: %s: %d weights, error %d, want ErrArg alone", what, len(got), err)
	}
}

func anyEdges(r *rand.Rand, locations, number int) []api.Edge {
	var edges []api.Edge
	for range number {
		edges = append(edges, e(r.Intn(locations), r.Intn(locations), r.Intn(api.MaxDeref+2)-1))
	}
	return edges
}

func anyRoots(r *rand.Rand, locations, most int) []int {
	var roots []int
	for range r.Intn(most + 1) {
		roots = append(roots, r.Intn(locations))
	}
	return roots
}
