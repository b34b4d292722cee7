package weigh

import (
	"math/rand"
	"slices"
	"testing"
)

// What is put in is given back once, however often it was put in while it waited, and again when it is put in again.
func TestTodoGivesEachOnce(t *testing.T) {
	type number int
	for seed := range 500 {
		r := rand.New(rand.NewSource(int64(seed)))
		l := newTodo[number](10)
		var waiting []number
		for range 60 {
			if r.Intn(2) == 0 {
				n := number(r.Intn(10))
				l.put(n)
				if !slices.Contains(waiting, n) {
					waiting = append(waiting, n)
				}
				continue
			}
			n, ok := l.take()
			if ok != (len(waiting) > 0) || ok && !slices.Contains(waiting, n) {
				t.Fatalf("seed %d: took %d, %v, while %v waited", seed, n, ok, waiting)
			}
			waiting = slices.DeleteFunc(waiting, func(w number) bool { return w == n })
		}
	}
}
