package gc_test

import (
	"math"
	"testing"

	"fugue/api"
	"fugue/gc"
)

// twice: the chapter's example. Cells 1 and 2 are the variables, 3 and 4 those of the News.
func twice(t *testing.T) api.Program {
	return of(t, fn(0, 0, 2, "v0 = new 1;v0 = new 1;v1 = v0;v0 = null;return"))
}

func TestExampleBehindTwoSteps(t *testing.T) {
	p := twice(t)
	for _, h := range everywhere(p) {
		m := begun(t, p, h)
		steps(t, m, 2)
		if n, e := gc.Collect(m); n != 1 || e != api.OK {
			t.Errorf("P22.2: behind two steps %d are dropped, error %d, want 1", n, e)
		}
		collects(t, "behind two steps again", m, 1, 2, 4)
		steps(t, m, 2)
		collects(t, "behind four steps", m, 1, 2, 4)
		ends(t, m, api.Done)
	}
}

func TestExampleAsARun(t *testing.T) {
	p := twice(t)
	for _, h := range everywhere(p) {
		runs(t, "the example", p, h, 100, 1, 1)
		for every, dropped := range map[int]int{math.MinInt: 0, -1: 0, 0: 0, 2: 1, 3: 1, 4: 1, 5: 0, 6: 0, math.MaxInt: 0} {
			runs(t, "the example", p, h, 100, every, dropped)
		}
	}
}

func TestNilRuns(t *testing.T) {
	if l := gc.Reach(nil); len(l) != 0 {
		t.Errorf("P22.1: Reach of nil: %v", l)
	}
	if n, e := gc.Collect(nil); n != 0 || e != api.ErrArg {
		t.Errorf("P22.2: Collect of nil: %d, error %d", n, e)
	}
}
