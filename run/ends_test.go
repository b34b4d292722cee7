package run_test

import (
	"strings"
	"testing"

	"fugue/api"
	"fugue/run"
)

// gone: the beginning of a function 0 whose v0 points to a variable of f1, v1 to a cell of two fields that f1 made, v2 is nil and v3 an int.
func gone(t *testing.T, line string) api.Program {
	t.Helper()
	return program(t, "func params 0 results 0 vars 9", "v0, v1 = f1()", "v3 = int 2", "v4 = &v0", "v5 = new 2", line, "print v3", "return",
		"func params 0 results 2 vars 3", "v0 = &v2", "v1 = new 2", "return v0, v1")
}

const stepsToTheLine = 7 // of gone

var ends = []struct {
	line          string
	frame, onHeap int // how the run ends, if f1's cells are in the frame, or on the heap
}{
	{"v8 = v2.0", api.Nils, api.Nils},
	{"v8 = v2.7", api.Nils, api.Nils},
	{"v8 = v3.0", api.Nils, api.Nils},
	{"v8 = v3.7", api.Nils, api.Nils},
	{"v2.0 = v8", api.Nils, api.Nils},
	{"v2.7 = v0", api.Nils, api.Nils},
	{"v3.0 = v0", api.Nils, api.Nils},
	{"v3.0 = v3", api.Nils, api.Nils},
	{"v2 = v2.0", api.Nils, api.Nils},
	{"v8 = v0.0", api.Dangle, api.Done},
	{"v8 = v0.1", api.Dangle, api.Fields},
	{"v8 = v1.1", api.Dangle, api.Done},
	{"v8 = v1.2", api.Dangle, api.Fields},
	{"v8 = v1.7", api.Dangle, api.Fields},
	{"v0 = v0.0", api.Dangle, api.Done},
	{"v0.0 = v2", api.Dangle, api.Done},
	{"v0.1 = v2", api.Dangle, api.Fields},
	{"v1.1 = v1", api.Dangle, api.Done},
	{"v1.2 = v1", api.Dangle, api.Fields},
	{"v8 = v4.0", api.Done, api.Done},
	{"v8 = v4.1", api.Fields, api.Fields},
	{"v4 = v4.1", api.Fields, api.Fields},
	{"v4.1 = v3", api.Fields, api.Fields},
	{"v5.1 = v0", api.Done, api.Done},
	{"v5.2 = v0", api.Fields, api.Fields},
	{"v5.7 = v5", api.Fields, api.Fields},
	{"v8 = v5.2", api.Fields, api.Fields},
}

func TestEndsOfLoadAndStore(t *testing.T) {
	for _, c := range ends {
		p := gone(t, c.line)
		for _, place := range []struct {
			h   api.Result
			end int
		}{{inFrame(p), c.frame}, {onHeap(p), c.onHeap}} {
			want := api.Trace{End: place.end, Steps: stepsToTheLine + 1}
			if place.end == api.Done {
				want = api.Trace{Steps: stepsToTheLine + 3, Prints: []api.Value{num(2)}}
			}
			runs(t, c.line, p, place.h, want)
		}
	}
}

// A step that ends the run is counted, and nothing else changes; nor does anything behind it.
func TestNothingElseChanges(t *testing.T) {
	for _, c := range ends {
		p := gone(t, c.line)
		if c.frame == api.Done {
			continue
		}
		m := begun(t, p, inFrame(p))
		steps(t, m, stepsToTheLine)
		was := look(m)
		if m.Step() {
			t.Errorf("P4.2 %s: Step answers that the run goes on", c.line)
		}
		is := look(m)
		if !is.rest(was) || is.trace.Steps != was.trace.Steps+1 || is.trace.End != c.frame {
			t.Errorf("P4.2 %s: ended by %+v, was %+v", c.line, is, was)
		}
		staysEnded(t, c.line, m)
	}
}

func staysEnded(t *testing.T, what string, m *run.Machine) {
	t.Helper()
	was := look(m)
	for range 3 {
		if m.Step() {
			t.Errorf("P4.2 %s: Step of a run that has ended answers true", what)
		}
	}
	if is := look(m); !is.same(was) {
		t.Errorf("P4.2 %s: Step of a run that has ended: %+v, was %+v", what, is, was)
	}
}

func TestStepOfARunThatIsDone(t *testing.T) {
	p := program(t, "func params 1 results 1 vars 2", "v1 = new 2", "g0 = v1", "print v0", "return v1")
	for _, h := range []api.Result{inFrame(p), onHeap(p)} {
		m := begun(t, p, h, num(4))
		steps(t, m, 3)
		if m.Step() {
			t.Error("P4.2: the last Return answers that the run goes on")
		}
		staysEnded(t, "Done", m)
	}
}

// An end in the midst of frames leaves them.
func TestEndsInDeepFrames(t *testing.T) {
	p := program(t, "func params 0 results 0 vars 1", "f1(v0)", "return", "func params 1 results 0 vars 2", "f2(v1)", "return", "func params 1 results 0 vars 1", "v0 = v0.0", "return")
	m := begun(t, p, inFrame(p))
	steps(t, m, 2)
	if m.Step() || m.Trace().End != api.Nils || len(m.Roots()) != 4+4 || len(m.Memory().Live()) != 4 {
		t.Errorf("P4.2: ended in the third frame: %+v", look(m))
	}
	staysEnded(t, "in the third frame", m)
}

// What dangles hangs on the frame that made the cell, and on that alone.
func TestDanglingGoesByTheFrame(t *testing.T) {
	lines := []string{"func params 0 results 0 vars 2", "f1()", "v0 = g0", "v1 = v0.0", "return",
		"func params 0 results 0 vars 2", "f2()", "v0 = g0", "v1 = v0.0", "return",
		"func params 0 results 0 vars 2", "v0 = new 1", "g0 = v0", "return"}
	p := program(t, lines...)
	runs(t, "used by the caller", p, inFrame(p), api.Trace{End: api.Dangle, Steps: 7})
	q := program(t, strings.Replace(strings.Join(lines, "\n"), "f2()", "v0 = new 1\ng0 = v0", 1))
	runs(t, "used by the maker, then by its caller", q, inFrame(q), api.Trace{End: api.Dangle, Steps: 8})
	h := inFrame(p)
	h.Code[2][0] = true
	runs(t, "on the heap", p, h, api.Trace{Steps: 11})
}
