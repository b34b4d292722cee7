package gc_test

import (
	"math/rand"
	"slices"
	"testing"

	"fugue/api"
	"fugue/gc"
	"fugue/run"
)

// Whatever the program, the placement, the period and the fuel: the trace is run.Run's, and as many are dropped as by the plain reading of the words.
func TestRunAgrees(t *testing.T) {
	ended, all, runsThatDrop := map[int]int{}, 0, 0
	for seed := range 3000 {
		r := rand.New(rand.NewSource(int64(seed)))
		p := anyProgram(r)
		h, args := anywhere(r, p), anyArgs(r, p)
		for range 3 {
			fuel, every := r.Intn(110)-5, r.Intn(12)-1
			if r.Intn(4) == 0 {
				every = 1
			}
			want, e := run.Run(p, h, fuel, args...)
			tr, n, f := gc.Run(p, h, fuel, every, args...)
			if e != api.OK || f != api.OK || !sameTrace(tr, want) {
				t.Fatalf("W11: seed %d, fuel %d, every %d: %+v, errors %d and %d, want %+v", seed, fuel, every, tr, f, e, want)
			}
			if plain, dropped := plainRun(t, p, h, fuel, every, args...); n != dropped || !sameTrace(tr, plain) {
				t.Fatalf("P22.3: seed %d, fuel %d, every %d: %d dropped, want %d", seed, fuel, every, n, dropped)
			}
			ended[tr.End]++
			all += n
			if n > 0 {
				runsThatDrop++
			}
		}
	}
	for end := api.Done; end <= api.Dangle; end++ {
		if ended[end] < 100 {
			t.Errorf("the runs are too much alike: %v", ended)
		}
	}
	if all < 15000 || runsThatDrop < 2000 {
		t.Errorf("there is too little to collect: %d cells in %d runs", all, runsThatDrop)
	}
}

// Collected at any steps, a run goes on as one beside it that nobody collects: step by step the same trace and roots, and the same fields of all that it can come to.
func TestCollectAgrees(t *testing.T) {
	dropped, most := 0, 0
	for seed := range 1500 {
		r := rand.New(rand.NewSource(int64(5000 + seed)))
		p := anyProgram(r)
		h, args := anywhere(r, p), anyArgs(r, p)
		m, other := begun(t, p, h, args...), begun(t, p, h, args...)
		often := 1 + r.Intn(8)
		for step := range 100 {
			reached := plainReach(other)
			most = max(most, len(reached))
			if got := gc.Reach(m); !slices.Equal(got, reached) {
				t.Fatalf("P22.1: seed %d behind %d steps: %v, want %v", seed, step, got, reached)
			}
			if r.Intn(often) == 0 {
				was := len(m.Memory().Live())
				n, e := gc.Collect(m)
				if e != api.OK || n != was-len(reached) || !look(m).same(look(other).left(reached)) {
					t.Fatalf("P22.2: seed %d behind %d steps: %d dropped, error %d, of %d; %v are left, want %v", seed, step, n, e, was, m.Memory().Live(), reached)
				}
				dropped += n
			}
			if !look(m).left(reached).same(look(other).left(reached)) {
				t.Fatalf("W11: seed %d behind %d steps: %+v, want %+v", seed, step, look(m), look(other))
			}
			if m.Step() != other.Step() {
				t.Fatalf("W11: seed %d: the step %d ends one run alone", seed, step+1)
			}
			if m.Trace().End != api.Fuel {
				break
			}
		}
		if !sameTrace(m.Trace(), other.Trace()) {
			t.Fatalf("W11: seed %d: %+v, want %+v", seed, m.Trace(), other.Trace())
		}
	}
	if dropped < 5000 || most < 40 {
		t.Errorf("there is too little to collect: %d cells in all, %d at most that a run can come to", dropped, most)
	}
}

// As it never drops what a run comes to, a run on the heap never dangles, collected or not.
func TestNoDangleOnTheHeap(t *testing.T) {
	for seed := range 1000 {
		r := rand.New(rand.NewSource(int64(9000 + seed)))
		p := anyProgram(r)
		if tr, _, e := gc.Run(p, onHeap(p), 300, 1, anyArgs(r, p)...); e != api.OK || tr.End == api.Dangle {
			t.Fatalf("W11: seed %d: %+v, error %d", seed, tr, e)
		}
	}
}
