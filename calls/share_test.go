package calls_test

import (
	"math/rand"
	"slices"
	"testing"

	"fugue/api"
	"fugue/calls"
)

const mark = -77 // stands in spare room

// roomy: the same list with spare room behind it, in which more stands.
func roomy[T any](l []T, more T) []T {
	return append(append(make([]T, 0, len(l)+2), l...), more, more)[:len(l)]
}

func fill[T any](l []T, x T) {
	l = l[:cap(l)]
	for i := range l {
		l[i] = x
	}
}

// roomyProgram: the same program with spare room behind each list.
func roomyProgram(p api.Program) api.Program {
	q := api.Program{Globals: p.Globals}
	for _, f := range p.Funcs {
		c := slices.Clone(f.Code)
		for k, x := range c {
			c[k].Args, c[k].Rets = roomy(x.Args, mark), roomy(x.Rets, mark)
		}
		f.Code = roomy(c, api.Instr{Op: mark})
		q.Funcs = append(q.Funcs, f)
	}
	q.Funcs = roomy(q.Funcs, api.Func{Vars: mark})
	return q
}

// numbers: all that is in a program, its spare room too.
func numbers(p api.Program) []int {
	out := []int{p.Globals, len(p.Funcs)}
	for _, f := range p.Funcs[:cap(p.Funcs)] {
		out = append(out, f.Params, f.Results, f.Vars, len(f.Code))
		for _, c := range f.Code[:cap(f.Code)] {
			out = append(out, c.Op, c.R, c.S, c.T, c.N, len(c.Args), len(c.Rets))
			out = append(out, c.Args[:cap(c.Args)]...)
			out = append(out, c.Rets[:cap(c.Rets)]...)
		}
	}
	return out
}

// spoil: everything in a program becomes something else, the spare room too.
func spoil(p api.Program) {
	for _, f := range p.Funcs {
		for _, c := range f.Code {
			fill(c.Args, mark)
			fill(c.Rets, mark)
		}
		fill(f.Code, api.Instr{Op: api.Call, N: mark})
	}
	fill(p.Funcs, api.Func{Vars: mark})
}

// passing: a program whose calls pass something and get something.
func passing(lists ...[]int) api.Program {
	p := program(lists...)
	for f := range p.Funcs {
		p.Funcs[f].Params, p.Funcs[f].Results, p.Funcs[f].Vars = 2, 1, 3
		for i := range p.Funcs[f].Code {
			c := &p.Funcs[f].Code[i]
			if c.Op == api.Call {
				c.Args, c.Rets = []int{1, 2}, []int{0}
			} else {
				c.Args = []int{2}
			}
		}
	}
	return p
}

func TestTheProgramStays(t *testing.T) {
	for seed := range 300 {
		r := rand.New(rand.NewSource(int64(seed)))
		p := roomyProgram(passing(anyLists(r, 1+r.Intn(9), 3)...))
		was := numbers(p)
		tell(graph(t, p), len(p.Funcs))
		p.Funcs[0].Results++
		calls.New(p)
		p.Funcs[0].Results--
		if !slices.Equal(numbers(p), was) {
			t.Fatalf("R5: seed %d: the program is another now", seed)
		}
	}
}

func TestTheProgramIsNotKept(t *testing.T) {
	for seed := range 300 {
		r := rand.New(rand.NewSource(int64(seed)))
		lists := anyLists(r, 1+r.Intn(9), 3)
		p := roomyProgram(passing(lists...))
		g := graph(t, p)
		spoil(p)
		if got, want := tell(g, len(lists)), plain(lists); !got.same(want) {
			t.Fatalf("R5: seed %d: the graph changes with the program that it is of: %+v, want %+v", seed, got, want)
		}
	}
}

// listsOf: each list that a graph answers, asked anew.
func listsOf(g *calls.Graph) [][]int {
	var out [][]int
	for c := range g.Len() {
		out = append(out, g.Members(c), g.Callees(c), g.Callers(c))
	}
	return out
}

// No list that is answered shares memory with another one, nor with the graph, its spare room neither.
func TestAnswersAreNew(t *testing.T) {
	for seed := range 100 {
		r := rand.New(rand.NewSource(int64(seed)))
		lists := anyLists(r, 1+r.Intn(12), 4)
		g, want := graph(t, program(lists...)), plain(lists)
		answers := slices.Concat(listsOf(g), listsOf(g), listsOf(graph(t, program(lists...))))
		for i, l := range answers {
			fill(l, mark-i)
		}
		if got := tell(g, len(lists)); !got.same(want) {
			t.Fatalf("R5: seed %d: the graph changes with its answers: %+v, want %+v", seed, got, want)
		}
		for i, l := range answers {
			if slices.ContainsFunc(l[:cap(l)], func(n int) bool { return n != mark-i }) {
				t.Fatalf("R5: seed %d: the answer %d shares memory with another one: %v", seed, i, l[:cap(l)])
			}
		}
	}
}

// What is laid behind an answer goes nowhere else.
func TestAnswersThatGrow(t *testing.T) {
	lists := [][]int{{1, 2}, {2}, nil, {4, 0}, {3, 1}}
	g, want := graph(t, program(lists...)), plain(lists)
	for _, l := range listsOf(g) {
		_ = append(l, mark, mark)
	}
	if got := tell(g, len(lists)); !got.same(want) {
		t.Errorf("R5: the graph changes with what is laid behind its answers: %+v, want %+v", got, want)
	}
}

// The same program has the same graph each time, at one time too.
func TestAtOneTime(t *testing.T) {
	r := rand.New(rand.NewSource(3))
	lists := anyLists(r, 60, 3)
	p, want := program(lists...), plain(lists)
	shared := graph(t, p)
	good := make(chan bool)
	for range 8 {
		go func() {
			all := true
			for range 50 {
				g, e := calls.New(p)
				all = all && e == api.OK && tell(g, len(lists)).same(want) && tell(shared, len(lists)).same(want)
			}
			good <- all
		}()
	}
	for range 8 {
		if !<-good {
			t.Error("R6: a graph asked at one time tells others than one by one")
		}
	}
}
