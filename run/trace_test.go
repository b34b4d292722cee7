package run_test

import (
	"math"
	"testing"

	"fugue/api"
	"fugue/run"
)

// story: a run of twelve steps with prints of all kinds, and three results.
func story(t *testing.T) api.Program {
	return program(t, "func params 2 results 3 vars 4", "print v0", "v2 = new 1", "print v2", "print v3", "v3, v1 = f1(v1)", "print v3", "return v2, v1, v0",
		"func params 1 results 2 vars 3", "v1 = &v2", "print v1", "print v0", "v2 = v0 + v0", "return v1, v2")
}

// storyTrace: that of story with the args 5 and 6, behind n steps.
func storyTrace(n int) api.Trace {
	prints := map[int]api.Value{1: num(5), 3: some, 4: null, 7: some, 8: num(6), 11: some}
	tr := api.Trace{End: api.Fuel, Steps: min(max(n, 0), 12)}
	for i := 1; i <= tr.Steps; i++ {
		if v, ok := prints[i]; ok {
			tr.Prints = append(tr.Prints, v)
		}
	}
	if n >= 12 {
		tr.End, tr.Results = api.Done, []api.Value{some, num(12), num(5)}
	}
	return tr
}

func TestTraceInTheMidstAndAtTheEnd(t *testing.T) {
	p := story(t)
	m := begun(t, p, inFrame(p), num(5), num(6))
	for n := range 15 {
		for range 2 { // a trace that was told before changes nothing
			if got := m.Trace(); !sameTrace(got, storyTrace(n)) {
				t.Errorf("P4.3 behind %d steps: %+v, want %+v", n, got, storyTrace(n))
			}
		}
		if more := m.Step(); more != (n < 11) {
			t.Errorf("P4.2: step %d answers %v", n+1, more)
		}
	}
}

func TestTraceOfOtherEnds(t *testing.T) {
	p := program(t, "func params 0 results 1 vars 2", "v0 = int 3", "print v0", "v0 = v1.0", "print v0", "return v0")
	runsAlike(t, "prints ahead of the end", p, api.Trace{Prints: []api.Value{num(3)}, End: api.Nils, Steps: 3})
	runsAlike(t, "the least", program(t, "globals 0", "func params 0 results 0 vars 0", "return"), api.Trace{Steps: 1})
}

func TestFuel(t *testing.T) {
	p := story(t)
	for _, h := range []api.Result{inFrame(p), onHeap(p)} {
		for _, fuel := range []int{math.MinInt, -100, -1, 0, 1, 2, 3, 4, 5, 6, 7, 8, 9, 10, 11, 12, 13, 14, 1000, math.MaxInt} {
			got, e := run.Run(p, h, fuel, num(5), num(6))
			if e != api.OK || !sameTrace(got, storyTrace(fuel)) {
				t.Errorf("P4.5 fuel %d: %+v, %d; want %+v", fuel, got, e, storyTrace(fuel))
			}
		}
	}
	forever := program(t, "func params 0 results 0 vars 0", "jump 0")
	for _, fuel := range []int{-1, 0, 1, 100, 100000} {
		if got, e := run.Run(forever, onHeap(forever), fuel); e != api.OK || !sameTrace(got, api.Trace{End: api.Fuel, Steps: max(fuel, 0)}) {
			t.Errorf("P4.5 fuel %d: %+v, %d", fuel, got, e)
		}
	}
	for _, c := range []struct{ fuel, end, steps int }{{0, api.Fuel, 0}, {1, api.Nils, 1}, {2, api.Nils, 1}} {
		nils := body(t, "v0 = v0.0")
		if got, e := run.Run(nils, onHeap(nils), c.fuel); e != api.OK || !sameTrace(got, api.Trace{End: c.end, Steps: c.steps}) {
			t.Errorf("P4.5 fuel %d: %+v, %d", c.fuel, got, e)
		}
	}
}

func TestANilRun(t *testing.T) {
	var m *run.Machine
	if m.Step() || m.Step() {
		t.Error("P4.2: Step of nil answers true")
	}
	if !nothing(m.Trace()) {
		t.Errorf("P4.3: Trace of nil: %+v", m.Trace())
	}
	if m.Memory() != nil || len(m.Roots()) != 0 {
		t.Errorf("P4.4: Memory and Roots of nil: %v, %v", m.Memory(), m.Roots())
	}
}
