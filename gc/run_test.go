package gc_test

import (
	"math"
	"testing"

	"fugue/api"
	"fugue/gc"
	"fugue/run"
)

// waste: each of its rounds of two steps makes a cell and forgets the one before.
func waste(t *testing.T) api.Program {
	return of(t, fn(0, 0, 1, "v0 = new 1;jump 0"))
}

func TestPeriods(t *testing.T) {
	p := waste(t)
	for _, h := range everywhere(p) {
		for _, c := range []struct{ fuel, every, dropped int }{
			{10, math.MinInt, 0}, {10, -10, 0}, {10, -1, 0}, {10, 0, 0},
			{10, 1, 4}, {10, 2, 4}, {10, 3, 4}, {10, 4, 3}, {10, 5, 4}, {10, 6, 2}, {10, 7, 3}, {10, 8, 3}, {10, 9, 4}, {10, 10, 4},
			{10, 11, 0}, {10, 20, 0}, {10, math.MaxInt, 0},
			{100000, 1, 49999}, {100000, 1000, 49999}, {100000, 99999, 49999}, {100000, 60000, 29999}, {100000, 100001, 0},
		} {
			runs(t, "waste", p, h, c.fuel, c.every, c.dropped)
		}
	}
}

// Behind the last step that fuel allows there is a collection; ahead of the first step there is none.
func TestFuel(t *testing.T) {
	p := waste(t)
	for _, h := range everywhere(p) {
		for _, every := range []int{-1, 0, 1, 2, 3, 100} {
			for _, fuel := range []int{math.MinInt, -100, -1, 0, 1, 2} {
				runs(t, "no cell to be dropped yet", p, h, fuel, every, 0)
			}
		}
		for fuel := 3; fuel < 20; fuel++ {
			runs(t, "a collection behind the last step alone", p, h, fuel, fuel, (fuel-1)/2)
			runs(t, "one behind each step", p, h, fuel, 1, (fuel-1)/2)
			runs(t, "the last step is one short of it", p, h, fuel-1, fuel, 0)
		}
	}
	first := of(t, fn(0, 0, 1, "f1();jump 1"), fn(0, 0, 1, "v0 = new 1;return"))
	runs(t, "fuel 0", first, onHeap(first), 0, 1, 0)
	runs(t, "the call's cells", first, onHeap(first), 3, 3, 2)
}

// Behind the step with which a run ends there is no collection, in whatever way it ends.
func TestNoCollectionBehindTheEnd(t *testing.T) {
	for _, c := range []struct {
		lines string
		end   int
	}{
		{"v0 = new 1;v0 = new 1;return", api.Done},
		{"v0 = new 1;v0 = null;v0 = v0.0;return", api.Nils},
		{"v0 = new 1;v0 = null;v0.0 = v1;return", api.Nils},
		{"v0 = new 1;v0 = new 1;v0 = v0.1;return", api.Fields},
		{"v0 = new 1;v0 = new 1;v0.7 = v0;return", api.Fields},
	} {
		p := of(t, fn(0, 0, 2, c.lines))
		for _, h := range everywhere(p) {
			if tr, _, _ := gc.Run(p, h, 100, 1); tr.End != c.end || tr.Steps != 3 {
				t.Fatalf("W11: %q: %+v", c.lines, tr)
			}
			for _, fuel := range []int{3, 4, 100} {
				runs(t, c.lines, p, h, fuel, 1, 1)
				runs(t, c.lines, p, h, fuel, 2, 1)
				runs(t, c.lines, p, h, fuel, 3, 0)
				runs(t, c.lines, p, h, fuel, 4, 0)
			}
		}
	}
}

// The step with which a run ends makes cells unreachable that nobody drops any more.
func TestTheLastReturnDropsNothing(t *testing.T) {
	p := of(t, fn(0, 0, 9, "v0 = new 1;return"))
	for every := range 5 {
		runs(t, "on the heap", p, onHeap(p), 9, every, 0)
		runs(t, "in the frame", p, inFrame(p), 9, every, 0)
	}
}

// Where a run would dangle it does, with a collector too, and where not, not.
func TestDangle(t *testing.T) {
	p := of(t, fn(0, 0, 2, "v0 = f1();v1 = new 1;v1 = null;v1 = v0.0;return"), fn(0, 1, 2, "v0 = new 1;v1 = &v0;return v1"))
	for every := range 9 {
		tr, _, e := gc.Run(p, inFrame(p), 100, every)
		if e != api.OK || !sameTrace(tr, api.Trace{End: api.Dangle, Steps: 7}) {
			t.Errorf("W11: in the frame, every %d: %+v, error %d", every, tr, e)
		}
		tr, _, e = gc.Run(p, onHeap(p), 100, every)
		if e != api.OK || !sameTrace(tr, api.Trace{End: api.Done, Steps: 8}) {
			t.Errorf("W11: on the heap, every %d: %+v, error %d", every, tr, e)
		}
	}
	for every, dropped := range []int{0, 1, 1, 1, 0, 0, 1, 0, 0} {
		runs(t, "it dangles", p, inFrame(p), 100, every, dropped)
	}
	for every, dropped := range []int{0, 2, 2, 2, 1, 1, 2, 2, 0} { // that of the New, and f1's v1
		runs(t, "on the heap", p, onHeap(p), 100, every, dropped)
	}
}

// The trace has the prints and the results, the args are the run's.
func TestPrintsAndResults(t *testing.T) {
	p := of(t, fn(2, 3, 4, "print v0;v2 = new 1;v2.0 = v1;v2 = new 1;print v2;print v3;v3 = v0 + v1;f1();return v3, v2, v1"), fn(0, 0, 2, "v1 = new 3;g0 = v1;print v1;return"))
	want := api.Trace{Prints: []api.Value{num(5), {Kind: api.Ptr}, null, {Kind: api.Ptr}}, Results: []api.Value{num(2), {Kind: api.Ptr}, num(-3)}, Steps: 13}
	for i, dropped := range []int{1, 3, 1, 3} { // on the heap f1's variables are left behind
		h := everywhere(p)[i]
		tr, n, e := gc.Run(p, h, 100, 1, num(5), num(-3))
		if e != api.OK || n != dropped || !sameTrace(tr, want) {
			t.Errorf("P22.3: %+v, %d dropped, error %d, want %+v and %d", tr, n, e, want, dropped)
		}
		for fuel := range 15 {
			for every := range 15 {
				want, _ := run.Run(p, h, fuel, num(5), null)
				if tr, _, e := gc.Run(p, h, fuel, every, num(5), null); e != api.OK || !sameTrace(tr, want) {
					t.Errorf("W11: fuel %d, every %d: %+v, error %d, want %+v", fuel, every, tr, e, want)
				}
			}
		}
	}
}
