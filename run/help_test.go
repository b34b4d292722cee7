package run_test

import (
	"math/rand"
	"slices"
	"strings"
	"testing"

	"fugue/api"
	"fugue/run"
	"fugue/text"
)

var null = api.Value{}

func num(n int) api.Value { return api.Value{Kind: api.Num, N: n} }

func ptr(n int) api.Value { return api.Value{Kind: api.Ptr, N: n} }

// some: a pointer as a trace tells it.
var some = api.Value{Kind: api.Ptr}

// program: that of these lines; globals 4, if they don't say otherwise.
func program(t *testing.T, lines ...string) api.Program {
	t.Helper()
	s := strings.Join(lines, "\n")
	if !strings.HasPrefix(s, "globals") {
		s = "globals 4\n" + s
	}
	p, e, line := text.Parse(s)
	if e != api.OK {
		t.Fatalf("a test's program is not right: %d at line %d of %q", e, line, s)
	}
	return p
}

// body: the program of one function without parameters and results, with ten variables; a Return stands behind the lines.
func body(t *testing.T, lines ...string) api.Program {
	t.Helper()
	return program(t, "func params 0 results 0 vars 10", strings.Join(lines, "\n"), "return")
}

// inFrame: the placement of nothing on the heap, made without the package.
func inFrame(p api.Program) api.Result { return placed(p, func() bool { return false }) }

func onHeap(p api.Program) api.Result { return placed(p, func() bool { return true }) }

// anywhere: a placement of some here and some there.
func anywhere(r *rand.Rand, p api.Program) api.Result {
	return placed(p, func() bool { return r.Intn(3) == 0 })
}

func placed(p api.Program, heap func() bool) api.Result {
	var h api.Result
	for _, f := range p.Funcs {
		vars, code := make([]bool, f.Vars), make([]bool, len(f.Code))
		for i := range vars {
			vars[i] = heap()
		}
		for i := range code {
			code[i] = heap()
		}
		h.Vars, h.Code = append(h.Vars, vars), append(h.Code, code)
	}
	return h
}

// begun: a new run.
func begun(t *testing.T, p api.Program, h api.Result, args ...api.Value) *run.Machine {
	t.Helper()
	m, e := run.New(p, h, args...)
	if e != api.OK || m == nil {
		t.Fatalf("P4.1 New: %v, %d", m, e)
	}
	return m
}

// steps does n steps, none of which may be the last.
func steps(t *testing.T, m *run.Machine, n int) {
	t.Helper()
	for i := range n {
		if !m.Step() {
			t.Fatalf("P4.2: the run ends behind %d of %d steps: %+v", i+1, n, m.Trace())
		}
	}
}

func sameTrace(a, b api.Trace) bool {
	return slices.Equal(a.Prints, b.Prints) && slices.Equal(a.Results, b.Results) && a.End == b.End && a.Steps == b.Steps
}

// runs: with this placement and enough fuel the trace is this one.
func runs(t *testing.T, what string, p api.Program, h api.Result, want api.Trace, args ...api.Value) {
	t.Helper()
	got, e := run.Run(p, h, 100000, args...)
	if e != api.OK || !sameTrace(got, want) {
		t.Errorf("P4.2 %s: %+v, %d; want %+v", what, got, e, want)
	}
}

// runsAlike: with all in the frame, all on the heap, and some here and some there.
func runsAlike(t *testing.T, what string, p api.Program, want api.Trace, args ...api.Value) {
	t.Helper()
	runs(t, what+" (in the frame)", p, inFrame(p), want, args...)
	runs(t, what+" (on the heap)", p, onHeap(p), want, args...)
	r := rand.New(rand.NewSource(1))
	for range 4 {
		runs(t, what+" (here and there)", p, anywhere(r, p), want, args...)
	}
}

// seen: all that can be seen of a run and its memory.
type seen struct {
	trace  api.Trace
	roots  []api.Value
	live   []int
	fields []api.Value
}

func look(m *run.Machine) seen {
	s := seen{trace: m.Trace(), roots: m.Roots(), live: m.Memory().Live()}
	for _, n := range s.live {
		for field := range api.MaxFields {
			v, e := m.Memory().Load(ptr(n), field)
			s.fields = append(s.fields, v, num(int(e)))
		}
	}
	return s
}

// rest: are they the same but for the trace?
func (s seen) rest(o seen) bool {
	return slices.Equal(s.roots, o.roots) && slices.Equal(s.live, o.live) && slices.Equal(s.fields, o.fields)
}

func (s seen) same(o seen) bool { return s.rest(o) && sameTrace(s.trace, o.trace) }

// nothing: is it a zero trace?
func nothing(tr api.Trace) bool { return sameTrace(tr, api.Trace{}) }
