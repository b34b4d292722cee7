package inline_test

import (
	"math/rand"
	"slices"
	"testing"

	"fugue/api"
	"fugue/inline"
)

const mark = -77 // stands in spare room

// roomy: the same list with spare room behind it, in which more stands.
func roomy[T any](l []T, more T) []T {
	return append(append(make([]T, 0, len(l)+3), l...), more, more, more)[:len(l)]
}

func fill[T any](l []T, x T) {
	l = l[:cap(l)]
	for i := range l {
		l[i] = x
	}
}

// full: a list with its spare room, in new memory.
func full[T any](l []T) []T { return slices.Clone(l[:cap(l)]) }

// roomyProgram: the same program with spare room behind each list: behind a code Addrs stand, behind the functions right ones.
func roomyProgram(p api.Program) api.Program {
	q := api.Program{Globals: p.Globals}
	for _, f := range p.Funcs {
		c := slices.Clone(f.Code)
		for k, x := range c {
			c[k].Args, c[k].Rets = roomy(x.Args, mark), roomy(x.Rets, mark)
		}
		f.Code = roomy(c, api.Instr{Op: api.Addr})
		q.Funcs = append(q.Funcs, f)
	}
	q.Funcs = roomy(q.Funcs, plainFunc(0, ret()))
	return q
}

// numbers: all that is in a program, its spare room too.
func numbers(p api.Program) []int {
	out := []int{p.Globals, len(p.Funcs)}
	for _, f := range p.Funcs[:cap(p.Funcs)] {
		out = append(out, f.Params, f.Results, f.Vars, len(f.Code))
		for _, c := range f.Code[:cap(f.Code)] {
			out = append(out, c.Op, c.R, c.S, c.T, c.N, len(c.Args), len(c.Rets))
			out = append(out, c.Args[:cap(c.Args)]...)
			out = append(out, c.Rets[:cap(c.Rets)]...)
		}
	}
	return out
}

// spoil: everything in a program becomes something else, the spare room too.
func spoil(p api.Program) {
	for _, f := range p.Funcs {
		for _, c := range f.Code {
			fill(c.Args, mark)
			fill(c.Rets, mark)
		}
		fill(f.Code, api.Instr{Op: api.Call, N: mark})
	}
	fill(p.Funcs, api.Func{Vars: mark})
}

// given: all that is handed in, each list with spare room.
type given struct {
	p  api.Program
	ms []api.Move
}

func anyGiven(t *testing.T, r *rand.Rand) given {
	t.Helper()
	p := anyProgram(r, kinds[r.Intn(4)])
	return given{roomyProgram(p), roomy(part(r, every(t, p)), api.Move{Func: mark, At: mark})}
}

func (g given) apply(t *testing.T) api.Program {
	t.Helper()
	return applied(t, "memory", g.p, g.ms)
}

func TestArgumentsStay(t *testing.T) {
	for seed := range 600 {
		g := anyGiven(t, rand.New(rand.NewSource(int64(seed))))
		was, list := numbers(g.p), full(g.ms)
		q := g.apply(t)
		if !slices.Equal(numbers(g.p), was) || !slices.Equal(full(g.ms), list) {
			t.Fatalf("P17.3: seed %d: an argument was changed", seed)
		}
		spoil(q)
		if !slices.Equal(numbers(g.p), was) || !slices.Equal(full(g.ms), list) {
			t.Fatalf("P17.3: seed %d: an answer shares memory with an argument", seed)
		}
		inline.Apply(g.p, append(g.ms, api.Move{Func: mark})...) // with an error neither
		g.p.Funcs[0].Results++
		was, list = numbers(g.p), full(g.ms)
		inline.Apply(g.p, g.ms...)
		if !slices.Equal(numbers(g.p), was) || !slices.Equal(full(g.ms), list) {
			t.Fatalf("P17.3: seed %d: an argument was changed by a call that is refused", seed)
		}
	}
}

// Spare room of what is handed in says nothing.
func TestSpareRoomSaysNothing(t *testing.T) {
	for seed := range 600 {
		g := anyGiven(t, rand.New(rand.NewSource(int64(seed))))
		if got, want := told(t, g.apply(t)), plainText(g.p, g.ms); got != want {
			t.Fatalf("R6: seed %d: with spare room\n%s\nwant\n%s", seed, short(got), short(want))
		}
	}
	p := ladder(t)
	if told(t, applied(t, "a first part of a list that is no plan", p, moves(0, 1, 0, 1)[:1])) != plainText(p, moves(0, 1)) {
		t.Error("R6: a list's spare room makes a difference")
	}
}

// Neither what becomes of the arguments nor what becomes of other answers is seen in an answer, in its spare room neither; nor in what is answered later.
func TestAnswersAreTheirOwn(t *testing.T) {
	long := 0
	for seed := range 400 {
		g := anyGiven(t, rand.New(rand.NewSource(int64(seed))))
		if seed%4 == 0 {
			g.ms = nil
		}
		one, two := g.apply(t), g.apply(t)
		want, words := numbers(one), told(t, one)
		spoil(two)
		if got := told(t, g.apply(t)); got != words {
			t.Fatalf("P17.3: seed %d: a changed answer is seen in a later one", seed)
		}
		long += min(len(g.ms)/4, 1)
		spoil(g.p)
		fill(g.ms, api.Move{Func: mark, At: mark})
		if !slices.Equal(numbers(one), want) {
			t.Fatalf("P17.3: seed %d: an answer shares memory with what was handed in or with another one", seed)
		}
	}
	if long < 50 {
		t.Errorf("only %d answers of more than three moves", long)
	}
}

// lists: all lists of numbers in a program, each with its spare room.
func lists(p api.Program) [][]int {
	var l [][]int
	for _, f := range p.Funcs[:cap(p.Funcs)] {
		for _, c := range f.Code[:cap(f.Code)] {
			l = append(l, c.Args[:cap(c.Args)], c.Rets[:cap(c.Rets)])
		}
	}
	return l
}

// No two lists of one answer share memory: a number of its own in each place of each list stays there.
func TestListsAreTheirOwn(t *testing.T) {
	many := 0
	for seed := range 300 {
		r := rand.New(rand.NewSource(int64(seed)))
		p := anyProgram(r, kinds[r.Intn(4)])
		for _, f := range p.Funcs { // what is handed in may share: all lists of one length are one
			for at, x := range f.Code {
				f.Code[at].Args = slices.Repeat([]int{0}, 8)[:len(x.Args)]
				f.Code[at].Rets = f.Code[at].Args[:min(len(x.Args), len(x.Rets))]
				for len(f.Code[at].Rets) < len(x.Rets) {
					f.Code[at].Rets = append(f.Code[at].Rets, 0)
				}
			}
		}
		p.Funcs = append(p.Funcs, p.Funcs...) // and so may functions
		q := applied(t, "lists", p, part(r, every(t, p)))
		all := lists(q)
		n := 0
		for _, l := range all {
			for i := range l {
				n++
				l[i] = n
			}
		}
		many += n
		n = 0
		for _, l := range all {
			for i := range l {
				if n++; l[i] != n {
					t.Fatalf("P17.3: seed %d: two lists of one answer share memory", seed)
				}
			}
		}
		for k, f := range q.Funcs {
			fill(f.Code, api.Instr{N: k})
		}
		for k, f := range q.Funcs {
			if slices.ContainsFunc(full(f.Code), func(x api.Instr) bool { return x.N != k }) {
				t.Fatalf("P17.3: seed %d: two codes of one answer share memory", seed)
			}
		}
	}
	if many < 3000 {
		t.Errorf("only %d numbers in lists", many)
	}
}

// Nothing is kept of one call that is seen in the next: the same memory with another program and other moves in it is another question.
func TestMemoryUsedAgain(t *testing.T) {
	funcs, list := make([]api.Func, 20), make([]api.Move, 1000)
	for seed := range 600 {
		r := rand.New(rand.NewSource(int64(seed)))
		p := anyProgram(r, kinds[r.Intn(4)])
		ms := part(r, every(t, p))
		q := api.Program{Globals: p.Globals, Funcs: funcs[:copy(funcs, p.Funcs)]}
		if got := told(t, applied(t, "memory used again", q, list[:copy(list, ms)])); got != plainText(p, ms) {
			t.Fatalf("R6: seed %d: memory used again: %s", seed, short(got))
		}
	}
}

// The same answers at one time.
func TestAtOneTime(t *testing.T) {
	g := anyGiven(t, rand.New(rand.NewSource(11)))
	want := numbers(g.apply(t))
	good := make(chan bool)
	for range 8 {
		go func() {
			is := true
			for range 50 {
				q, e := inline.Apply(g.p, g.ms...)
				is = is && e == api.OK && slices.Equal(numbers(q), want)
			}
			good <- is
		}()
	}
	for range 8 {
		if !<-good {
			t.Error("R6: asked at one time it answers otherwise")
		}
	}
}
