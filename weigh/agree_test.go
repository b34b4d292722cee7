package weigh_test

import (
	"math/rand"
	"slices"
	"testing"

	"fugue/api"
)

// added: the chapter's words, of weights other than None.
func added(d, w int) int {
	if d < 0 {
		d = 0
	}
	if d+w > 3 {
		return 3
	}
	return d + w
}

// plain: every weight of every way, by going along all of them: which pairs of a location and a weight some way comes to.
func plain(locations int, edges []api.Edge, roots []int) []int {
	type came struct{ at, weight int }
	seen := map[came]bool{}
	var todo []came
	come := func(c came) {
		if !seen[c] {
			seen[c] = true
			todo = append(todo, c)
		}
	}
	for _, r := range roots {
		come(came{r, 0})
	}
	for i := 0; i < len(todo); i++ {
		for _, x := range edges {
			if x.Dst == todo[i].at {
				come(came{x.Src, added(todo[i].weight, x.Derefs)})
			}
		}
	}
	want := slices.Repeat([]int{none}, locations)
	for c := range seen {
		want[c.at] = min(want[c.at], c.weight)
	}
	return want
}

func agrees(t *testing.T, locations int, edges []api.Edge, roots []int) []int {
	t.Helper()
	got, want := from(t, locations, edges, roots...), plain(locations, edges, roots)
	if !slices.Equal(got, want) {
		t.Fatalf("P6.3: From(%d, %v, %v): %v, want %v", locations, edges, roots, got, want)
	}
	return got
}

// setOf: which numbers' bits are set.
func setOf(bits int) []int {
	var out []int
	for i := 0; bits>>i > 0; i++ {
		if bits>>i&1 == 1 {
			out = append(out, i)
		}
	}
	return out
}

// allGraphs: those in which each location flows to each one with one of these derefs, or not at all.
func allGraphs(t *testing.T, locations int, derefs ...int) {
	number := 1
	for range locations * locations {
		number *= len(derefs) + 1
	}
	for n := range number {
		var edges []api.Edge
		rest := n
		for k := range locations * locations {
			if c := rest % (len(derefs) + 1); c > 0 {
				edges = append(edges, e(k/locations, k%locations, derefs[c-1]))
			}
			rest /= len(derefs) + 1
		}
		for bits := range 1 << locations {
			agrees(t, locations, edges, setOf(bits))
		}
	}
}

func TestAllOfFewLocations(t *testing.T) {
	allGraphs(t, 1, -1, 0, 1, 2, 3)
	allGraphs(t, 2, -1, 0, 1, 2, 3)
	allGraphs(t, 3, -1, 1)
	allGraphs(t, 3, 3)
	allGraphs(t, 4, -1)
}

func TestAsThePlainOne(t *testing.T) {
	for seed := range 20000 {
		r := rand.New(rand.NewSource(int64(seed)))
		n := 1 + r.Intn(12)
		agrees(t, n, anyEdges(r, n, r.Intn(3*n)), anyRoots(r, n, 3))
	}
	for seed := range 60 {
		r := rand.New(rand.NewSource(int64(seed)))
		n := 100 + r.Intn(100)
		agrees(t, n, anyEdges(r, n, n/2+r.Intn(2*n)), anyRoots(r, n, 5))
	}
}

// obeys: does a list of weights lie below every way's, as the chapter says what follows?
func obeys(x []int, edges []api.Edge, roots []int) bool {
	for _, r := range roots {
		if x[r] > 0 {
			return false
		}
	}
	for _, c := range edges {
		if x[c.Dst] != none && x[c.Src] > added(x[c.Dst], c.Derefs) {
			return false
		}
	}
	return true
}

// The answer is the greatest of all lists that obey.
func TestTheGreatestList(t *testing.T) {
	for seed := range 400 {
		r := rand.New(rand.NewSource(int64(seed)))
		n := 1 + r.Intn(4)
		edges, roots := anyEdges(r, n, r.Intn(3*n)), anyRoots(r, n, 2)
		got := from(t, n, edges, roots...)
		if !obeys(got, edges, roots) {
			t.Fatalf("P6.3: seed %d: %v does not obey %v, %v", seed, got, edges, roots)
		}
		lists := 1
		for range n {
			lists *= len(weights())
		}
		for k := range lists {
			x := make([]int, n)
			for i := range x {
				x[i], k = weights()[k%len(weights())], k/len(weights())
			}
			if !obeys(x, edges, roots) {
				continue
			}
			for i := range x {
				if x[i] > got[i] {
					t.Fatalf("P6.3: seed %d: %v obeys %v, %v, yet the answer is %v", seed, x, edges, roots, got)
				}
			}
		}
	}
}

// The order of edges and roots, and how often each stands there, changes nothing.
func TestOtherOrders(t *testing.T) {
	for seed := range 2000 {
		r := rand.New(rand.NewSource(int64(seed)))
		n := 1 + r.Intn(30)
		edges, roots := anyEdges(r, n, r.Intn(3*n)), anyRoots(r, n, 4)
		want := from(t, n, edges, roots...)
		for i := range edges {
			if r.Intn(3) == 0 {
				edges = append(edges, edges[i])
			}
		}
		for i := range roots {
			if r.Intn(3) == 0 {
				roots = append(roots, roots[i])
			}
		}
		r.Shuffle(len(edges), func(i, k int) { edges[i], edges[k] = edges[k], edges[i] })
		r.Shuffle(len(roots), func(i, k int) { roots[i], roots[k] = roots[k], roots[i] })
		if got := from(t, n, edges, roots...); !slices.Equal(got, want) {
			t.Fatalf("P6.3: seed %d: in another order %v, want %v", seed, got, want)
		}
	}
}

// Other numbers of the locations: the same weights, numbered so.
func TestOtherNumbers(t *testing.T) {
	for seed := range 2000 {
		r := rand.New(rand.NewSource(int64(seed)))
		n := 1 + r.Intn(30)
		edges, roots := anyEdges(r, n, r.Intn(3*n)), anyRoots(r, n, 4)
		want := from(t, n, edges, roots...)
		as := r.Perm(n)
		for i, x := range edges {
			edges[i].Dst, edges[i].Src = as[x.Dst], as[x.Src]
		}
		for i, l := range roots {
			roots[i] = as[l]
		}
		got := from(t, n, edges, roots...)
		for l := range n {
			if got[as[l]] != want[l] {
				t.Fatalf("P6.3: seed %d: by other numbers the location %d has %d, want %d", seed, l, got[as[l]], want[l])
			}
		}
	}
}

// More edges make no weight rise; the roots of two lists together have the lesser weight of both.
func TestMoreEdgesAndRoots(t *testing.T) {
	for seed := range 2000 {
		r := rand.New(rand.NewSource(int64(seed)))
		n := 1 + r.Intn(30)
		edges, more := anyEdges(r, n, r.Intn(3*n)), anyEdges(r, n, r.Intn(n))
		one, two := anyRoots(r, n, 3), anyRoots(r, n, 3)
		a, b := from(t, n, edges, one...), from(t, n, edges, two...)
		both := from(t, n, edges, slices.Concat(one, two)...)
		grown := from(t, n, slices.Concat(edges, more), one...)
		for l := range n {
			if both[l] != min(a[l], b[l]) || grown[l] > a[l] {
				t.Fatalf("P6.3: seed %d: the location %d has %d and %d, with both lists of roots %d, with more edges %d", seed, l, a[l], b[l], both[l], grown[l])
			}
		}
	}
}
