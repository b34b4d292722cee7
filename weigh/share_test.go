package weigh_test

import (
	"math/rand"
	"slices"
	"testing"

	"fugue/api"
	"fugue/weigh"
)

const mark = -77 // stands in spare room

// roomy: the same list with spare room behind it, in which more stands.
func roomy[T any](l []T, more T) []T {
	return append(append(make([]T, 0, len(l)+2), l...), more, more)[:len(l)]
}

func fill[T any](l []T, x T) {
	l = l[:cap(l)]
	for i := range l {
		l[i] = x
	}
}

func all[T any](l []T) []T { return slices.Clone(l[:cap(l)]) }

func TestTheArgumentsStay(t *testing.T) {
	for seed := range 1000 {
		r := rand.New(rand.NewSource(int64(seed)))
		n := 1 + r.Intn(12)
		edges, roots := roomy(anyEdges(r, n, r.Intn(3*n)), e(mark, mark, mark)), roomy(anyRoots(r, n, 4), mark)
		wasEdges, wasRoots := all(edges), all(roots)
		weigh.From(n, edges, roots...)
		weigh.From(n-1, edges, roots...)
		if !slices.Equal(all(edges), wasEdges) || !slices.Equal(all(roots), wasRoots) {
			t.Fatalf("P6.4: seed %d: an argument is another now", seed)
		}
	}
}

// What is done to the arguments later changes no answer, and what is done to an answer changes neither them nor another answer.
func TestAnswersAreNew(t *testing.T) {
	for seed := range 1000 {
		r := rand.New(rand.NewSource(int64(seed)))
		n := 1 + r.Intn(12)
		edges, roots := roomy(anyEdges(r, n, r.Intn(3*n)), e(mark, mark, mark)), roomy(anyRoots(r, n, n), mark)
		want := plain(n, edges, roots)
		wasEdges, wasRoots := all(edges), all(roots)
		one, two := from(t, n, edges, roots...), from(t, n, edges, roots...)
		fill(one, mark-1)
		if !slices.Equal(all(edges), wasEdges) || !slices.Equal(all(roots), wasRoots) || !slices.Equal(two, want) {
			t.Fatalf("P6.4: seed %d: an answer shares memory with an argument or another answer", seed)
		}
		if again := from(t, n, edges, roots...); !slices.Equal(again, want) {
			t.Fatalf("P6.4: seed %d: asked again: %v, want %v", seed, again, want)
		}
		fill(edges, e(mark, mark, mark))
		fill(roots, mark)
		if !slices.Equal(two, want) || slices.ContainsFunc(all(one), func(d int) bool { return d != mark-1 }) {
			t.Fatalf("P6.4: seed %d: an answer changes with the arguments", seed)
		}
	}
}

// The same graph has the same weights each time, at one time too.
func TestAtOneTime(t *testing.T) {
	r := rand.New(rand.NewSource(3))
	edges, roots := anyEdges(r, 80, 160), []int{3, 5, 3}
	want := plain(80, edges, roots)
	good := make(chan bool)
	for range 8 {
		go func() {
			same := true
			for range 50 {
				got, err := weigh.From(80, edges, roots...)
				same = same && err == api.OK && slices.Equal(got, want)
			}
			good <- same
		}()
	}
	for range 8 {
		if !<-good {
			t.Error("R6: a graph weighed at one time has other weights")
		}
	}
}
