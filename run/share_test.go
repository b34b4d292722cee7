package run_test

import (
	"math/rand"
	"slices"
	"testing"

	"fugue/api"
	"fugue/run"
)

const mark = -77 // stands in spare room

// roomy: the same list with spare room behind it, in which more stands.
func roomy[T any](l []T, more T) []T {
	return append(append(make([]T, 0, len(l)+2), l...), more, more)[:len(l)]
}

// given: what a run is made of, each list with spare room behind it.
type given struct {
	p    api.Program
	h    api.Result
	args []api.Value
}

func roomyGiven(p api.Program, h api.Result, args []api.Value) given {
	g := given{api.Program{Globals: p.Globals}, api.Result{}, roomy(args, num(mark))}
	for i, f := range p.Funcs {
		c := slices.Clone(f.Code)
		for k, x := range c {
			c[k].Args, c[k].Rets = roomy(x.Args, mark), roomy(x.Rets, mark)
		}
		f.Code = roomy(c, api.Instr{Op: mark})
		g.p.Funcs = append(g.p.Funcs, f)
		g.h.Vars, g.h.Code = append(g.h.Vars, roomy(h.Vars[i], true)), append(g.h.Code, roomy(h.Code[i], true))
		g.h.Sums = append(g.h.Sums, api.Summary{Heap: roomy([]int{1}, mark), Result: roomy([][]int{roomy([]int{2}, mark)}, nil)})
	}
	g.p.Funcs = roomy(g.p.Funcs, api.Func{Vars: mark})
	g.h.Vars, g.h.Code = roomy(g.h.Vars, []bool{true}), roomy(g.h.Code, []bool{true})
	g.h.Sums = roomy(g.h.Sums, api.Summary{})
	return g
}

// numbers: all that is in it, its spare room too, as numbers.
func (g given) numbers() []int {
	var out []int
	ints := func(l []int) { out = append(append(out, len(l)), l[:cap(l)]...) }
	truths := func(l []bool) {
		out = append(out, len(l))
		for _, b := range l[:cap(l)] {
			out = append(out, toInt(b))
		}
	}
	for _, f := range g.p.Funcs[:cap(g.p.Funcs)] {
		out = append(out, f.Params, f.Results, f.Vars, len(f.Code))
		for _, c := range f.Code[:cap(f.Code)] {
			out = append(out, c.Op, c.R, c.S, c.T, c.N)
			ints(c.Args)
			ints(c.Rets)
		}
	}
	for _, lists := range [][][]bool{g.h.Vars[:cap(g.h.Vars)], g.h.Code[:cap(g.h.Code)]} {
		for _, l := range lists {
			truths(l)
		}
	}
	for _, s := range g.h.Sums[:cap(g.h.Sums)] {
		ints(s.Heap)
		for _, l := range s.Result[:cap(s.Result)] {
			ints(l)
		}
	}
	for _, v := range g.args[:cap(g.args)] {
		out = append(out, v.Kind, v.N)
	}
	return append(out, g.p.Globals, len(g.p.Funcs), len(g.h.Vars), len(g.h.Code), len(g.h.Sums), len(g.args))
}

// spoil: everything in it becomes something else, the spare room too.
func (g given) spoil() {
	fill(g.args, num(mark))
	for _, f := range g.p.Funcs {
		for _, c := range f.Code {
			fill(c.Args, mark)
			fill(c.Rets, mark)
		}
		fill(f.Code, api.Instr{Op: mark})
	}
	fill(g.p.Funcs, api.Func{Vars: mark})
	for i := range g.h.Vars {
		flip(g.h.Vars[i])
		flip(g.h.Code[i])
	}
	fill(g.h.Vars, nil)
	fill(g.h.Code, nil)
	fill(g.h.Sums, api.Summary{})
}

func fill[T any](l []T, x T) {
	l = l[:cap(l)]
	for i := range l {
		l[i] = x
	}
}

func flip(l []bool) {
	l = l[:cap(l)]
	for i := range l {
		l[i] = !l[i]
	}
}

func TestArgumentsStay(t *testing.T) {
	for seed := range 100 {
		r := rand.New(rand.NewSource(int64(seed)))
		p := anyProgram(r)
		g := roomyGiven(p, anywhere(r, p), anyArgs(r, p))
		was := g.numbers()
		run.AllHeap(g.p)
		run.Run(g.p, g.h, 100, g.args...)
		m := begun(t, g.p, g.h, g.args...)
		for range 100 {
			m.Step()
			look(m)
		}
		run.New(g.p, g.h, append(g.args[:len(g.args):len(g.args)], ptr(1))...)
		if !slices.Equal(g.numbers(), was) {
			t.Fatalf("P4.7: seed %d: what was handed in is another now", seed)
		}
	}
}

// What was handed in may become something else at any time: the run does not see it.
func TestArgumentsAreNotKept(t *testing.T) {
	for seed := range 300 {
		r := rand.New(rand.NewSource(int64(seed)))
		p := anyProgram(r)
		h, args := anywhere(r, p), anyArgs(r, p)
		g := roomyGiven(p, h, args)
		m, other := begun(t, g.p, g.h, g.args...), begun(t, p, h, args...)
		before := r.Intn(10)
		for n := range 60 {
			if n == before {
				g.spoil()
			}
			if m.Step() != other.Step() || !look(m).same(look(other)) {
				t.Fatalf("P4.7: seed %d, step %d: the run changes with what it was made of", seed, n+1)
			}
		}
	}
}

func TestTracesAreNew(t *testing.T) {
	p := story(t)
	m := begun(t, p, inFrame(p), num(5), num(6))
	var told []api.Trace
	for n := range 14 {
		tr := m.Trace()
		if !sameTrace(tr, storyTrace(n)) {
			t.Errorf("P4.7: the trace behind %d steps is %+v: it shares memory with an older one", n, tr)
		}
		fill(tr.Prints, num(mark))
		fill(tr.Results, num(mark+1))
		told = append(told, tr)
		m.Step()
	}
	m.Trace()
	for n, tr := range told {
		if slices.ContainsFunc(tr.Prints[:cap(tr.Prints)], func(v api.Value) bool { return v != num(mark) }) {
			t.Errorf("P4.7: the prints told behind %d steps changed later on", n)
		}
		if slices.ContainsFunc(tr.Results[:cap(tr.Results)], func(v api.Value) bool { return v != num(mark+1) }) {
			t.Errorf("P4.7: the results told behind %d steps changed later on", n)
		}
	}
}

func TestRootsAreNew(t *testing.T) {
	p := program(t, "globals 2", "func params 0 results 0 vars 2", "v0 = new 1", "g1 = v0", "f1()", "return", "func params 0 results 0 vars 3", "f1()", "return")
	m, other := begun(t, p, inFrame(p)), begun(t, p, inFrame(p))
	var told [][]api.Value
	for range 20 {
		roots := m.Roots()
		if !slices.Equal(roots, other.Roots()) {
			t.Fatalf("P4.7: Roots share memory: %v, want %v", roots, other.Roots())
		}
		fill(roots, num(mark))
		told = append(told, roots)
		m.Step()
		other.Step()
	}
	for n, roots := range told {
		if slices.ContainsFunc(roots[:cap(roots)], func(v api.Value) bool { return v != num(mark) }) {
			t.Errorf("P4.7: the roots told behind %d steps changed later on", n)
		}
	}
	if !look(m).same(look(other)) {
		t.Error("P4.7: a run changed with the roots that it told")
	}
}

// No list of AllHeap's lies in another one's room, nor in that of another answer.
func TestAllHeapIsNew(t *testing.T) {
	p := program(t, "func params 0 results 0 vars 2", "return", "func params 0 results 0 vars 3", "v0 = new 1", "v0 = v1", "return", "func params 0 results 0 vars 0", "return", "func params 0 results 0 vars 3", "return")
	for i := range 2 * len(p.Funcs) {
		h, other := run.AllHeap(p), run.AllHeap(p)
		lists := slices.Concat(h.Vars, h.Code, other.Vars, other.Code)
		flip(lists[i])
		for k, l := range lists {
			if k != i && slices.Contains(l, false) {
				t.Errorf("P4.7: of AllHeap the lists %d and %d share memory", i, k)
			}
		}
	}
	h, other := run.AllHeap(p), run.AllHeap(p)
	fill(h.Vars, nil)
	if len(other.Vars[0]) != 2 || len(h.Code[0]) != 1 {
		t.Error("P4.7: AllHeap's lists of lists share memory")
	}
	fill(other.Code, nil)
	if len(h.Code[0]) != 1 || len(run.AllHeap(p).Code[0]) != 1 {
		t.Error("P4.7: AllHeap's answers share memory")
	}
}

// Two runs of the same things know nothing of one another.
func TestRunsAreTheirOwn(t *testing.T) {
	for seed := range 100 {
		r := rand.New(rand.NewSource(int64(seed)))
		p := anyProgram(r)
		h, args := anywhere(r, p), anyArgs(r, p)
		one, two := begun(t, p, h, args...), begun(t, p, h, args...)
		was := look(two)
		for one.Step() && one.Trace().Steps < 50 {
		}
		if one.Memory() == two.Memory() || !look(two).same(was) {
			t.Fatalf("P4.7: seed %d: a run changes with another one", seed)
		}
		for two.Step() && two.Trace().Steps < 50 {
		}
		if !look(two).same(look(one)) {
			t.Fatalf("R6: seed %d: the same run is another one: %+v, %+v", seed, look(one), look(two))
		}
	}
}

func TestAtOneTime(t *testing.T) {
	r := rand.New(rand.NewSource(8))
	p := anyProgram(r)
	h, args := anywhere(r, p), anyArgs(r, p)
	want, _ := run.Run(p, h, 500, args...)
	good := make(chan bool)
	for range 8 {
		go func() {
			all := true
			for range 20 {
				got, e := run.Run(p, h, 500, args...)
				all = all && e == api.OK && sameTrace(got, want) && len(run.AllHeap(p).Vars) == len(p.Funcs)
			}
			good <- all
		}()
	}
	for range 8 {
		if !<-good {
			t.Error("R6: runs at one time are others than one by one")
		}
	}
}
