package deque

import (
	"math/rand"
	"slices"
	"strconv"
	"testing"
)

// listed: what stands in a ring, from the far end on.
func listed[T any](r *ring[T]) []T {
	var l []T
	for i := range r.many {
		l = append(l, r.room[r.place(i)])
	}
	return l
}

// A ring of texts against a plain list: what stands there, how much room there is, and that what has left it is not kept.
func TestRingsOfTexts(t *testing.T) {
	for seed := range 500 {
		by := rand.New(rand.NewSource(int64(seed)))
		var r ring[string]
		var want []string
		most, come := 0, 1+by.Intn(9)
		for n := range 300 {
			if by.Intn(60) == 0 {
				come = 1 + by.Intn(9)
			}
			switch k := by.Intn(20); {
			case k < 2*come:
				r.push(strconv.Itoa(n))
				want = append(want, strconv.Itoa(n))
			case k%2 == 0:
				x, ok := r.pop()
				if ok != (len(want) > 0) || ok && x != want[len(want)-1] || !ok && x != "" {
					t.Fatalf("P12.2: seed %d: pop of %q: %q, %v", seed, want, x, ok)
				}
				want = want[:max(0, len(want)-1)]
			default:
				x, ok := r.steal()
				if ok != (len(want) > 0) || ok && x != want[0] || !ok && x != "" {
					t.Fatalf("P12.2: seed %d: steal of %q: %q, %v", seed, want, x, ok)
				}
				want = want[min(1, len(want)):]
			}
			most = max(most, len(want))
			if l := listed(&r); !slices.Equal(l, want) {
				t.Fatalf("P12.2: seed %d: %q, want %q", seed, l, want)
			}
			if len(r.room) > 2*most {
				t.Fatalf("P12.4: seed %d: room for %d, but at most %d stood there", seed, len(r.room), most)
			}
			kept := len(slices.DeleteFunc(slices.Clone(r.room), func(s string) bool { return s == "" }))
			if kept != len(want) {
				t.Fatalf("P12.4: seed %d: %d are kept of %d", seed, kept, len(want))
			}
		}
	}
}

// From every place of the far end in rooms of few.
func TestGrowingFromEveryPlace(t *testing.T) {
	for size := 1; size <= 64; size *= 2 {
		for far := range size {
			r := ring[int]{room: make([]int, size), far: far}
			var want []int
			for n := range 3 * size {
				r.push(n)
				want = append(want, n)
				if l := listed(&r); !slices.Equal(l, want) {
					t.Fatalf("P12.2: room %d, far end at %d: %v, want %v", size, far, l, want)
				}
			}
		}
	}
}
