package calls_test

import (
	"math/rand"
	"slices"
	"testing"
)

// reaching: by function and function whether the one reaches the other, as the chapter says it.
func reaching(lists [][]int) [][]bool {
	reach := make([][]bool, len(lists))
	for f, l := range lists {
		reach[f] = make([]bool, len(lists))
		reach[f][f] = true
		for _, g := range l {
			reach[f][g] = true
		}
	}
	for by := range lists {
		for f := range lists {
			for g := range lists {
				reach[f][g] = reach[f][g] || reach[f][by] && reach[by][g]
			}
		}
	}
	return reach
}

// plain: what the graph is to tell, by the chapter's words and nothing else.
func plain(lists [][]int) told {
	reach := reaching(lists)
	ring := func(f int) []int {
		var out []int
		for g := range lists {
			if reach[f][g] && reach[g][f] {
				out = append(out, g)
			}
		}
		return out
	}
	want := told{of: slices.Repeat([]int{-1}, len(lists))}
	numbered := func(f int) bool {
		for _, m := range ring(f) {
			for _, g := range lists[m] {
				if want.of[g] < 0 && !(reach[f][g] && reach[g][f]) {
					return false
				}
			}
		}
		return true
	}
	for slices.Contains(want.of, -1) {
		for f := range lists {
			if want.of[f] < 0 && numbered(f) {
				for _, m := range ring(f) {
					want.of[m] = len(want.members)
				}
				want.members = append(want.members, ring(f))
				break
			}
		}
	}
	want.callees, want.callers = make([][]int, len(want.members)), make([][]int, len(want.members))
	for c := range want.members {
		for d := range want.members {
			if c != d && slices.ContainsFunc(want.members[c], func(f int) bool {
				return slices.ContainsFunc(lists[f], func(g int) bool { return want.of[g] == d })
			}) {
				want.callees[c] = append(want.callees[c], d)
				want.callers[d] = append(want.callers[d], c)
			}
		}
	}
	return want
}

func agrees(t *testing.T, lists [][]int) {
	t.Helper()
	g := graph(t, program(lists...))
	if got, want := tell(g, len(lists)), plain(lists); !got.same(want) {
		t.Fatalf("P5.2: of %v: %+v, want %+v", lists, got, want)
	}
}

// All programs of so few functions, by who calls whom.
func TestAllOfFewFunctions(t *testing.T) {
	for n := 1; n <= 4; n++ {
		for bits := range 1 << (n * n) {
			lists := make([][]int, n)
			for k := range n * n {
				if bits>>k&1 == 1 {
					lists[k/n] = append(lists[k/n], k%n)
				}
			}
			agrees(t, lists)
		}
	}
}

func TestAsThePlainOne(t *testing.T) {
	for seed := range 6000 {
		r := rand.New(rand.NewSource(int64(seed)))
		lists := anyLists(r, 1+r.Intn(16), 1+r.Intn(4))
		agrees(t, lists)
	}
	for seed := range 40 {
		r := rand.New(rand.NewSource(int64(seed)))
		agrees(t, anyLists(r, 60+r.Intn(60), 1+r.Intn(3)))
	}
}

// What follows from the promises, of programs that are too great for the plain one.
func TestWhatFollows(t *testing.T) {
	for seed := range 30 {
		r := rand.New(rand.NewSource(int64(seed)))
		lists := anyLists(r, 2000, 1+r.Intn(3))
		g := graph(t, program(lists...))
		s := tell(g, len(lists))
		follows(t, lists, s)
		tellsNothingElse(t, "a great one", g, len(lists))
	}
}

func follows(t *testing.T, lists [][]int, s told) {
	t.Helper()
	var all []int
	for c, l := range s.members {
		all = append(all, l...)
		if len(l) == 0 || !rising(l) || !rising(s.callees[c]) || !rising(s.callers[c]) {
			t.Fatalf("P5.2: the component %d: %v, %v, %v: not rising", c, l, s.callees[c], s.callers[c])
		}
		for _, f := range l {
			if s.of[f] != c {
				t.Fatalf("P5.2: Of(%d) = %d, yet it is a member of %d", f, s.of[f], c)
			}
		}
		for _, d := range s.callees[c] {
			if d >= c || !slices.Contains(s.callers[d], c) {
				t.Fatalf("P5.2: %d calls %d, whose callers are %v", c, d, s.callers[d])
			}
		}
		for _, d := range s.callers[c] {
			if !slices.Contains(s.callees[d], c) {
				t.Fatalf("P5.2: %d is called by %d, whose callees are %v", c, d, s.callees[d])
			}
		}
	}
	slices.Sort(all)
	for f := range lists {
		if len(all) != len(lists) || all[f] != f {
			t.Fatalf("P5.2: the members of all components are %v", all)
		}
		for _, g := range lists[f] {
			if c, d := s.of[f], s.of[g]; c != d && !slices.Contains(s.callees[c], d) {
				t.Fatalf("P5.2: %d calls %d, yet %d does not call %d", f, g, c, d)
			}
		}
	}
}

// rising: and none twice.
func rising(l []int) bool {
	for i := range l {
		if i > 0 && l[i-1] >= l[i] {
			return false
		}
	}
	return true
}

// Other numbers of the functions, and another order of the calls: the same components, and the same calls between them.
func TestOtherNumbers(t *testing.T) {
	for seed := range 1500 {
		r := rand.New(rand.NewSource(int64(seed)))
		n := 2 + r.Intn(40)
		lists := anyLists(r, n, 1+r.Intn(3))
		as := r.Perm(n)
		others := renumbered(lists, as)
		for _, l := range others {
			r.Shuffle(len(l), func(i, k int) { l[i], l[k] = l[k], l[i] })
		}
		one, two := tell(graph(t, program(lists...)), n), tell(graph(t, program(others...)), n)
		if len(one.members) != len(two.members) {
			t.Fatalf("P5.2: seed %d: %d components, and %d by other numbers", seed, len(one.members), len(two.members))
		}
		for f := range n {
			c, d := one.of[f], two.of[as[f]]
			if !slices.Equal(functionsAs(one.members[c:c+1], as), two.members[d]) {
				t.Fatalf("P5.2: seed %d: %v is another component by other numbers: %v", seed, one.members[c], two.members[d])
			}
			if !slices.Equal(functionsOf(one, one.callees[c], as), functionsOf(two, two.callees[d], nil)) || !slices.Equal(functionsOf(one, one.callers[c], as), functionsOf(two, two.callers[d], nil)) {
				t.Fatalf("P5.2: seed %d: %v has other callees or callers by other numbers", seed, one.members[c])
			}
		}
	}
}

// functionsOf: all members of some components, by other numbers, rising.
func functionsOf(s told, components []int, as []int) []int {
	var lists [][]int
	for _, c := range components {
		lists = append(lists, s.members[c])
	}
	return functionsAs(lists, as)
}

func functionsAs(lists [][]int, as []int) []int {
	out := slices.Concat(lists...)
	for i, f := range out {
		if as != nil {
			out[i] = as[f]
		}
	}
	slices.Sort(out)
	return out
}
