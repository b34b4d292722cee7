package solve

import (
	"math/rand"
	"testing"
)

// The lowest one from a number on is taken, once; none beyond the last.
func TestOpenGivesTheNext(t *testing.T) {
	for seed := range 300 {
		r := rand.New(rand.NewSource(int64(seed)))
		many := 1 + r.Intn(200)
		o := newOpen(many)
		in := make([]bool, many)
		for range 300 {
			if r.Intn(3) == 0 {
				n := r.Intn(many)
				o.put(n)
				in[n] = true
				continue
			}
			from := r.Intn(many + 1)
			want := from
			for want < many && !in[want] {
				want++
			}
			n, ok := o.take(from)
			if ok != (want < many) || ok && n != want {
				t.Fatalf("seed %d: from %d on: %d, %v, want %d of %d", seed, from, n, ok, want, many)
			}
			if ok {
				in[n] = false
			}
		}
	}
}
