package why_test

import (
	"math/rand"
	"slices"
	"testing"

	"fugue/api"
	"fugue/why"
)

const mark = -77 // stands in spare room

var marked = api.Step{Func: mark, Dst: mark, Src: mark, Derefs: mark, Rule: mark, At: mark}

// roomy: the same list with spare room behind it, in which more stands.
func roomy[T any](l []T, more T) []T {
	return append(append(make([]T, 0, len(l)+3), l...), more, more, more)[:len(l)]
}

func fill[T any](l []T, x T) {
	l = l[:cap(l)]
	for i := range l {
		l[i] = x
	}
}

// full: a list with its spare room, in new memory.
func full[T any](l []T) []T { return slices.Clone(l[:cap(l)]) }

// roomyProgram: the same program with spare room behind each list: behind a code Addrs stand, behind the functions right ones.
func roomyProgram(p api.Program) api.Program {
	q := api.Program{Globals: p.Globals}
	for _, f := range p.Funcs {
		c := slices.Clone(f.Code)
		for i, x := range c {
			c[i].Args, c[i].Rets = roomy(x.Args, mark), roomy(x.Rets, mark)
		}
		f.Code = roomy(c, api.Instr{Op: api.Addr})
		q.Funcs = append(q.Funcs, f)
	}
	q.Funcs = roomy(q.Funcs, api.Func{Vars: 1, Code: []api.Instr{ret()}})
	return q
}

// inProgram: all that is in a program, its spare room too.
func inProgram(p api.Program) []int {
	out := []int{p.Globals, len(p.Funcs)}
	for _, f := range p.Funcs[:cap(p.Funcs)] {
		out = append(out, f.Params, f.Results, f.Vars, len(f.Code))
		for _, c := range f.Code[:cap(f.Code)] {
			out = append(out, c.Op, c.R, c.S, c.T, c.N, len(c.Args), len(c.Rets))
			out = append(out, c.Args[:cap(c.Args)]...)
			out = append(out, c.Rets[:cap(c.Rets)]...)
		}
	}
	return out
}

// spoil: everything in a program becomes something else, the spare room too.
func spoil(p api.Program) {
	for _, f := range p.Funcs {
		for _, c := range f.Code {
			fill(c.Args, mark)
			fill(c.Rets, mark)
		}
		fill(f.Code, api.Instr{Op: api.Call, N: mark})
	}
	fill(p.Funcs, api.Func{Vars: mark})
}

// given: all that is handed in, each list with spare room; the site is on the heap.
type given struct {
	p api.Program
	s api.Site
	w []api.Step
}

// eachGiven: of programs by chance, one of the sites of each.
func eachGiven(t *testing.T, seeds int, do func(seed int, g given)) {
	t.Helper()
	many := 0
	for seed := range seeds {
		r := rand.New(rand.NewSource(int64(seed)))
		p := anyProgram(r, kinds[seed%len(kinds)])
		heap := onHeap(t, p)
		if len(heap) == 0 {
			continue
		}
		many++
		s := heap[r.Intn(len(heap))]
		do(seed, given{roomyProgram(p), s, roomy(found(t, "memory", p, s), marked)})
	}
	if many < seeds/3 {
		t.Errorf("only %d programs have something on the heap", many)
	}
}

func (g given) is(t *testing.T, seed int, what string, program []int, list []api.Step) {
	t.Helper()
	if !slices.Equal(inProgram(g.p), program) || !slices.Equal(full(g.w), list) {
		t.Fatalf("P18.5: seed %d: %s", seed, what)
	}
}

func TestArgumentsStay(t *testing.T) {
	eachGiven(t, 600, func(seed int, g given) {
		program, list := inProgram(g.p), full(g.w)
		w, e := why.Find(g.p, g.s)
		g.is(t, seed, "Find changed an argument", program, list)
		fill(w, marked)
		g.is(t, seed, "Find's answer shares memory with an argument", program, list)
		f := why.Check(g.p, g.s, g.w)
		g.is(t, seed, "Check changed an argument", program, list)
		text, h := why.Print(g.p, g.w)
		g.is(t, seed, "Print changed an argument", program, list)
		if e != api.OK || f != api.OK || h != api.OK || text == "" {
			t.Fatalf("P18.5: seed %d: errors %d, %d, %d", seed, e, f, h)
		}
		why.Find(g.p, variable(mark, 0)) // with an error neither
		why.Check(g.p, g.s, g.w[:len(g.w)-1])
		why.Check(g.p, variable(mark, 0), g.w)
		why.Print(g.p, g.w[:cap(g.w)])
		g.is(t, seed, "an argument was changed by a call that is refused", program, list)
		g.p.Funcs[0].Results++
		program = inProgram(g.p)
		why.Find(g.p, g.s)
		why.Check(g.p, g.s, g.w)
		why.Print(g.p, g.w)
		g.is(t, seed, "an argument was changed where the program is wrong", program, list)
	})
}

// Spare room of what is handed in says nothing.
func TestSpareRoomSaysNothing(t *testing.T) {
	eachGiven(t, 600, func(seed int, g given) {
		if w := found(t, "spare room", g.p, g.s); !slices.Equal(w, g.w) {
			t.Fatalf("R6: seed %d: with spare room %v, want %v", seed, w, g.w)
		}
		passes(t, "spare room", g.p, g.s, g.w)
		whole := roomy(g.w[:len(g.w)-1], g.w[len(g.w)-1]) // the last step stands in the spare room
		fails(t, "the last step in the spare room", g.p, g.s, whole)
	})
}

// Neither what becomes of the arguments nor what becomes of other answers is seen in an answer, nor in what is answered later.
func TestAnswersAreTheirOwn(t *testing.T) {
	eachGiven(t, 600, func(seed int, g given) {
		one, two := found(t, "memory", g.p, g.s), found(t, "memory", g.p, g.s)
		want := slices.Clone(one)
		fill(two, marked)
		if !slices.Equal(one, want) || !slices.Equal(found(t, "memory", g.p, g.s), want) {
			t.Fatalf("P18.5: seed %d: a changed answer is seen in another one", seed)
		}
		spare := full(one)
		text, _ := why.Print(g.p, g.w)
		copied := string([]byte(text))
		spoil(g.p)
		fill(g.w, marked)
		if !slices.Equal(full(one), spare) || text != copied {
			t.Fatalf("P18.5: seed %d: an answer shares memory with what was handed in", seed)
		}
	})
}

// Nothing is kept of one call that is seen in the next: the same memory with another program and other steps in it is another question.
func TestMemoryUsedAgain(t *testing.T) {
	funcs, list := make([]api.Func, 20), make([]api.Step, 1000)
	eachGiven(t, 600, func(seed int, g given) {
		q := api.Program{Globals: g.p.Globals, Funcs: funcs[:copy(funcs, g.p.Funcs)]}
		w := list[:copy(list, g.w)]
		passes(t, "memory used again", q, g.s, w)
		if !slices.Equal(found(t, "memory used again", q, g.s), g.w) {
			t.Fatalf("R6: seed %d: memory used again: another witness", seed)
		}
		text, _ := why.Print(q, w)
		if want, _ := why.Print(g.p, g.w); text != want {
			t.Fatalf("R6: seed %d: memory used again: %q, want %q", seed, text, want)
		}
	})
}

// The same answers at one time.
func TestAtOneTime(t *testing.T) {
	eachGiven(t, 20, func(seed int, g given) {
		good := make(chan bool)
		for range 8 {
			go func() {
				is := true
				for range 20 {
					w, e := why.Find(g.p, g.s)
					is = is && e == api.OK && slices.Equal(w, g.w) && why.Check(g.p, g.s, g.w) == api.OK
				}
				good <- is
			}()
		}
		for range 8 {
			if !<-good {
				t.Errorf("R6: seed %d: asked at one time it answers otherwise", seed)
			}
		}
	})
}
