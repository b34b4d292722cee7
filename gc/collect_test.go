package gc_test

import (
	"slices"
	"testing"

	"fugue/api"
	"fugue/gc"
	"fugue/run"
)

func lives(t *testing.T, what string, m *run.Machine, want ...int) {
	t.Helper()
	if got := m.Memory().Live(); !slices.Equal(got, want) {
		t.Errorf("P22.2: %s: %v are there, want %v", what, got, want)
	}
}

// Collect answers how many went, not how many there were.
func TestCollectCounts(t *testing.T) {
	p := of(t, fn(0, 0, 2, "v0 = new 1;v1 = new 2;v1.1 = v0;v0 = new 3;v0 = null;v1 = null;jump 0"))
	for _, h := range everywhere(p) {
		m := begun(t, p, h)
		for _, c := range []struct{ steps, gone int }{{0, 0}, {4, 0}, {1, 1}, {1, 2}, {0, 0}, {7, 3}, {7 * 4, 3 * 4}, {1, 0}, {6, 3}} {
			steps(t, m, c.steps)
			if n, e := gc.Collect(m); n != c.gone || e != api.OK {
				t.Fatalf("P22.2: behind %d more steps %d are dropped, error %d, want %d", c.steps, n, e, c.gone)
			}
		}
	}
}

// The variables of all frames stay, whether anything points to them or not, and whatever stands in them.
func TestVariablesStay(t *testing.T) {
	p := of(t, fn(1, 0, 3, "v1 = new 1;v1 = int 7;f1(v1, v0);return"), fn(2, 0, 5, "v4 = &v3;v4 = null;f2();return"), fn(0, 0, 1, "f3();return"), fn(0, 0, 0, "f4();return"), fn(0, 0, 2, "v1 = new 8;v1 = null;return"))
	for _, h := range everywhere(p) {
		m := begun(t, p, h, num(5))
		steps(t, m, 10)
		collects(t, "five frames", m, 1, 2, 3, 5, 6, 7, 8, 9, 10, 11, 12)
		ends(t, m, api.Done)
	}
}

// A cell of a frame that nothing points to goes ahead of its frame; when the frame goes, it is not among what goes.
func TestAheadOfItsFrame(t *testing.T) {
	p := of(t, fn(0, 0, 1, "f1();v0 = new 1;jump 1"), fn(0, 0, 2, "v0 = new 1;v1 = new 1;v0 = null;return"))
	m := begun(t, p, inFrame(p))
	steps(t, m, 4)
	collects(t, "the frame is there", m, 1, 2, 3, 5)
	if e := m.Memory().Drop(4); e != api.ErrDangle {
		t.Errorf("P22.2: a cell that was collected can be dropped again: %d", e)
	}
	steps(t, m, 1)
	lives(t, "the frame is gone", m, 1)
	collects(t, "the frame is gone", m, 1)
	steps(t, m, 1)
	lives(t, "a new cell has a new number", m, 1, 6)
	for every, dropped := range map[int]int{1: 1, 2: 1, 4: 1, 3: 0, 5: 0} {
		runs(t, "a frame's cell", p, inFrame(p), 6, every, dropped)
	}
}

// What goes with its frame is not dropped, so it is not counted.
func TestWhatFramesTakeIsNotCounted(t *testing.T) {
	p := of(t, fn(0, 0, 0, "f1();jump 0"), fn(0, 0, 3, "v0 = new 2;v1 = new 2;v0.0 = v1;return"))
	for i, dropped := range []int{0, 50, 20, 30} { // ten calls, of each three variables and two News
		runs(t, "ten calls", p, everywhere(p)[i], 60, 6, dropped)
		runs(t, "ten calls", p, everywhere(p)[i], 60, 1, dropped)
		runs(t, "ten calls", p, everywhere(p)[i], 60, 60, dropped)
		runs(t, "ten calls", p, everywhere(p)[i], 60, 61, 0)
	}
}

// A cell that the run can come to is found by it afterwards, with what stood in it.
func TestWhatStaysIsFollowed(t *testing.T) {
	p := of(t, fn(0, 1, 3, "v0 = new 2;v1 = new 1;v2 = int 41;v1.0 = v2;v0.1 = v1;g0 = v0;v0 = null;v1 = null;v2 = null;v0 = g0;v0 = v0.1;v0 = v0.0;print v0;return v0"))
	for _, h := range everywhere(p) {
		m := begun(t, p, h)
		for n := range 13 {
			steps(t, m, 1)
			if dropped, e := gc.Collect(m); dropped != 0 && n < 10 || e != api.OK {
				t.Fatalf("P22.2: behind %d steps %d are dropped, error %d", n+1, dropped, e)
			}
		}
		ends(t, m, api.Done)
		if tr := m.Trace(); !sameTrace(tr, api.Trace{Prints: []api.Value{num(41)}, Results: []api.Value{num(41)}, Steps: 14}) {
			t.Errorf("W11: %+v", tr)
		}
	}
}

// Same tells pointers to cells that are gone apart, as it would without a collector.
func TestSameOfWhatIsGone(t *testing.T) {
	p := of(t, fn(0, 0, 4, "v0 = f1();v1 = f1();v2 = v0;v3 = v0 == v1;print v3;v3 = v0 == v2;print v3;return"), fn(0, 1, 2, "v0 = &v1;return v0"))
	for every := range 14 {
		runs(t, "Same, in the frame", p, inFrame(p), 100, every, 0)
		if tr, _, _ := gc.Run(p, inFrame(p), 100, every); !slices.Equal(tr.Prints, []api.Value{num(0), num(1)}) {
			t.Errorf("W11: every %d: %+v", every, tr)
		}
	}
	runs(t, "Same, on the heap", p, onHeap(p), 100, 3, 2) // f1's v0 of both calls
}
