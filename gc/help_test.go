package gc_test

import (
	"fmt"
	"math/rand"
	"reflect"
	"slices"
	"strings"
	"testing"

	"fugue/api"
	"fugue/gc"
	"fugue/run"
	"fugue/text"
)

var null = api.Value{}

func num(n int) api.Value { return api.Value{Kind: api.Num, N: n} }

func ptr(n int) api.Value { return api.Value{Kind: api.Ptr, N: n} }

// fn: a function as text, its lines parted by semicolons.
func fn(params, results, vars int, lines string) string {
	return fmt.Sprintf("func params %d results %d vars %d\n", params, results, vars) + strings.ReplaceAll(lines, ";", "\n") + "\n"
}

// with: the program of these functions, with so many globals.
func with(t *testing.T, globals int, funcs ...string) api.Program {
	t.Helper()
	lines := fmt.Sprintf("globals %d\n", globals) + strings.Join(funcs, "")
	p, e, line := text.Parse(lines)
	if e != api.OK {
		t.Fatalf("no program: error %d at line %d of\n%s", e, line, lines)
	}
	return p
}

// of: one with two globals.
func of(t *testing.T, funcs ...string) api.Program {
	t.Helper()
	return with(t, 2, funcs...)
}

// placed: the placement of which each truth is asked for.
func placed(p api.Program, heap func() bool) api.Result {
	var h api.Result
	for _, f := range p.Funcs {
		vars, code := make([]bool, f.Vars), make([]bool, len(f.Code))
		for i := range vars {
			vars[i] = heap()
		}
		for i := range code {
			code[i] = heap()
		}
		h.Vars, h.Code = append(h.Vars, vars), append(h.Code, code)
	}
	return h
}

func inFrame(p api.Program) api.Result { return placed(p, func() bool { return false }) }

func onHeap(p api.Program) api.Result { return placed(p, func() bool { return true }) }

// anywhere: some here and some there.
func anywhere(r *rand.Rand, p api.Program) api.Result {
	return placed(p, func() bool { return r.Intn(3) == 0 })
}

// everywhere: all in the frame, all on the heap, and the variables here and the News there.
func everywhere(p api.Program) []api.Result {
	frame, heap := inFrame(p), onHeap(p)
	return []api.Result{frame, heap, {Vars: frame.Vars, Code: heap.Code}, {Vars: heap.Vars, Code: frame.Code}}
}

func begun(t *testing.T, p api.Program, h api.Result, args ...api.Value) *run.Machine {
	t.Helper()
	m, e := run.New(p, h, args...)
	if e != api.OK || m == nil {
		t.Fatalf("no run: error %d", e)
	}
	return m
}

// steps does n steps, none of which may be the last.
func steps(t *testing.T, m *run.Machine, n int) {
	t.Helper()
	for i := range n {
		if !m.Step() {
			t.Fatalf("the run ends behind %d of %d steps: %+v", i+1, n, m.Trace())
		}
	}
}

// ends does all steps that there are.
func ends(t *testing.T, m *run.Machine, want int) {
	t.Helper()
	for m.Step() {
	}
	if got := m.Trace().End; got != want {
		t.Fatalf("W11: the run ends by %d, want %d: %+v", got, want, m.Trace())
	}
}

func sameTrace(a, b api.Trace) bool {
	return slices.Equal(a.Prints, b.Prints) && slices.Equal(a.Results, b.Results) && a.End == b.End && a.Steps == b.Steps
}

// seen: all that can be seen of a run and its memory.
type seen struct {
	trace  api.Trace
	roots  []api.Value
	live   []int
	fields [][]api.Value
}

func look(m *run.Machine) seen {
	s := seen{trace: m.Trace(), roots: m.Roots(), live: m.Memory().Live()}
	for _, n := range s.live {
		s.fields = append(s.fields, fieldsOf(m, n))
	}
	return s
}

func fieldsOf(m *run.Machine, cell int) []api.Value {
	var l []api.Value
	for field := range api.MaxFields {
		if v, e := m.Memory().Load(ptr(cell), field); e == api.OK {
			l = append(l, v)
		}
	}
	return l
}

// left: what is seen if of all cells just these are there.
func (s seen) left(cells []int) seen {
	var fields [][]api.Value
	for i, n := range s.live {
		if slices.Contains(cells, n) {
			fields = append(fields, s.fields[i])
		}
	}
	s.live, s.fields = cells, fields
	return s
}

func (s seen) same(o seen) bool {
	return sameTrace(s.trace, o.trace) && slices.Equal(s.roots, o.roots) && slices.Equal(s.live, o.live) && slices.EqualFunc(s.fields, o.fields, slices.Equal)
}

// reaches: Reach answers this, once and again, and changes nothing.
func reaches(t *testing.T, what string, m *run.Machine, want ...int) {
	t.Helper()
	was := look(m)
	for range 2 {
		if got := gc.Reach(m); !slices.Equal(got, want) {
			t.Fatalf("P22.1: %s: %v, want %v, of %v with the roots %v", what, got, want, m.Memory().Live(), m.Roots())
		}
		if !look(m).same(was) {
			t.Fatalf("P22.1: %s: Reach has changed %+v to %+v", what, was, look(m))
		}
	}
}

// collects: just these are there behind a Collect, it answers how many are not any more, and nothing else has changed; a second one finds nothing.
func collects(t *testing.T, what string, m *run.Machine, left ...int) {
	t.Helper()
	was := look(m)
	reaches(t, what, m, left...)
	for i := range 2 {
		n, e := gc.Collect(m)
		if want := (len(was.live) - len(left)) * (1 - i); n != want || e != api.OK {
			t.Fatalf("P22.2: %s: the collection %d drops %d, error %d, want %d of %v", what, i+1, n, e, want, was.live)
		}
		if now := look(m); !now.same(was.left(left)) {
			t.Fatalf("P22.2: %s: behind the collection %d: %+v, want %+v", what, i+1, now, was.left(left))
		}
	}
	reaches(t, what+", behind a collection", m, left...)
}

// runs: of Run this many cells dropped, and the trace of run.Run.
func runs(t *testing.T, what string, p api.Program, h api.Result, fuel, every, dropped int, args ...api.Value) {
	t.Helper()
	want, _ := run.Run(p, h, fuel, args...)
	tr, n, e := gc.Run(p, h, fuel, every, args...)
	if e != api.OK || !sameTrace(tr, want) {
		t.Errorf("W11: %s, fuel %d, every %d: %+v, error %d, want %+v", what, fuel, every, tr, e, want)
	}
	if n != dropped {
		t.Errorf("P22.3: %s, fuel %d, every %d: %d dropped, want %d", what, fuel, every, n, dropped)
	}
}

// refuses: Run answers this error and nothing else, as run.Run does.
func refuses(t *testing.T, what string, p api.Program, h api.Result, want api.Errno, args ...api.Value) {
	t.Helper()
	if _, e := run.Run(p, h, 9, args...); e != want {
		t.Fatalf("%s: run.Run's error is %d, not %d", what, e, want)
	}
	for _, fuel := range []int{-1, 0, 1, 9} {
		for _, every := range []int{-1, 0, 1, 9} {
			if tr, n, e := gc.Run(p, h, fuel, every, args...); e != want || n != 0 || !reflect.DeepEqual(tr, api.Trace{}) {
				t.Errorf("P22.3: %s, fuel %d, every %d: %+v, %d dropped, error %d, want the error %d alone", what, fuel, every, tr, n, e, want)
			}
		}
	}
}
