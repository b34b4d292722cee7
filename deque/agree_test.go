package deque_test

import (
	"math/rand"
	"testing"

	"fugue/deque"
)

// pair: a deque and the plain list that it is held against.
type pair struct {
	d *deque.Deque
	p plain
}

func (x *pair) agree(t *testing.T, kind, n int) {
	t.Helper()
	before := x.p
	p, want := before.do(kind, n)
	if got := called(x.d, kind, n); got != want {
		t.Fatalf("P12.2: with %v there: %v, want %v", before, got, want)
	}
	x.p = p
}

func (x *pair) drain(t *testing.T, kinds ...int) {
	t.Helper()
	for i := range len(x.p) + len(kinds) {
		x.agree(t, kinds[i%len(kinds)], 0)
		x.agree(t, asking, 0)
	}
}

// Every order of few calls, with the tasks all different, and with the same ones again.
func TestAllOfFewCalls(t *testing.T) {
	const calls = 9
	orders := 1
	for range calls {
		orders *= kinds
	}
	for number := range orders {
		for _, different := range []int{1, 2, calls} {
			x := pair{d: deque.New()}
			rest := number
			for i := range calls {
				x.agree(t, rest%kinds, i%different-1)
				rest /= kinds
			}
			x.drain(t, stealing, popping)
		}
	}
}

// Many long ones by chance: now more come, now more go, at the one end or the other.
func TestAsThePlainList(t *testing.T) {
	for seed := range 400 {
		r := rand.New(rand.NewSource(int64(seed)))
		x := pair{d: deque.New()}
		for range 30 {
			come, near := r.Intn(11), r.Intn(11)
			for range r.Intn(200) {
				kind, n := stealing, r.Intn(2000)-1000
				switch {
				case r.Intn(8) == 0:
					kind = asking
				case r.Intn(10) < come:
					kind = pushing
				case r.Intn(10) < near:
					kind = popping
				}
				if r.Intn(8) == 0 {
					n = edges[r.Intn(len(edges))]
				}
				x.agree(t, kind, n)
			}
			if r.Intn(6) == 0 {
				x.drain(t, popping+r.Intn(2), popping+r.Intn(2))
			}
		}
		x.drain(t, popping, stealing)
	}
}

// Several deques by turns, each against its own list.
func TestSideBySide(t *testing.T) {
	for seed := range 100 {
		r := rand.New(rand.NewSource(int64(seed)))
		var all []*pair
		for range 2 + r.Intn(5) {
			all = append(all, &pair{d: deque.New()})
		}
		for range 2000 {
			kind := pushing
			if r.Intn(100) > 45 {
				kind = r.Intn(kinds)
			}
			all[r.Intn(len(all))].agree(t, kind, r.Intn(50))
		}
		for _, x := range all {
			x.drain(t, popping, stealing, stealing)
		}
	}
}

// The same calls of a new deque have the same answers each time.
func TestTheSameAgain(t *testing.T) {
	play := func(seed int64) []call {
		r := rand.New(rand.NewSource(seed))
		d := deque.New()
		var l []call
		for range 300 {
			l = append(l, called(d, r.Intn(kinds), r.Int()))
		}
		return l
	}
	for seed := range int64(50) {
		first := play(seed)
		play(seed + 1)
		for i, c := range play(seed) {
			if c != first[i] {
				t.Fatalf("R6: seed %d: call %d: %v, and before %v", seed, i, c, first[i])
			}
		}
	}
}
