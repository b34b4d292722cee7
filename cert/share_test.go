package cert_test

import (
	"math/rand"
	"reflect"
	"slices"
	"testing"

	"fugue/api"
	"fugue/cert"
)

const mark = -77 // stands in spare room

// roomy: the same list with spare room behind it, in which more stands.
func roomy[T any](l []T, more T) []T {
	return append(append(make([]T, 0, len(l)+3), l...), more, more, more)[:len(l)]
}

func fill[T any](l []T, x T) {
	l = l[:cap(l)]
	for i := range l {
		l[i] = x
	}
}

// full: a list with its spare room, in new memory.
func full[T any](l []T) []T { return slices.Clone(l[:cap(l)]) }

// given: all that is handed in, each list with spare room, in which what stands would change the answer: behind a code Sets, behind the functions right ones, behind the bytes one more pass.
type given struct {
	p api.Program
	r api.Result
	b []byte
}

func roomyProgram(p api.Program) api.Program {
	q := api.Program{Globals: p.Globals}
	for _, f := range p.Funcs {
		c := slices.Clone(f.Code)
		for i, x := range c {
			c[i].Args, c[i].Rets = roomy(x.Args, mark), roomy(x.Rets, mark)
		}
		f.Code = roomy(c, api.Instr{Op: api.Set})
		q.Funcs = append(q.Funcs, f)
	}
	q.Funcs = roomy(q.Funcs, api.Func{Params: 1, Vars: 1, Code: []api.Instr{{Op: api.Set}, ret()}})
	return q
}

func roomyResult(r api.Result) api.Result {
	c := copied(r)
	for i, s := range c.Sums {
		for k, l := range s.Result {
			s.Result[k] = roomy(l, mark)
		}
		c.Sums[i] = api.Summary{Heap: roomy(s.Heap, mark), Result: roomy(s.Result, []int{mark})}
	}
	for i := range c.Vars {
		c.Vars[i], c.Code[i] = roomy(c.Vars[i], true), roomy(c.Code[i], true)
	}
	return api.Result{Sums: roomy(c.Sums, api.Summary{Heap: []int{0}}), Vars: roomy(c.Vars, []bool{true}), Code: roomy(c.Code, []bool{true})}
}

// inIt: all that stands in it, in spare room too, in new memory.
func (g given) inIt() given {
	c := given{g.p, api.Result{Sums: full(g.r.Sums), Vars: full(g.r.Vars), Code: full(g.r.Code)}, full(g.b)}
	c.p.Funcs = full(g.p.Funcs)
	for i := range c.p.Funcs {
		f := &c.p.Funcs[i]
		f.Code = full(f.Code)
		for at := range f.Code {
			f.Code[at].Args, f.Code[at].Rets = full(f.Code[at].Args), full(f.Code[at].Rets)
		}
	}
	for i, s := range c.r.Sums {
		c.r.Sums[i] = api.Summary{Heap: full(s.Heap), Result: full(s.Result)}
		for k, l := range c.r.Sums[i].Result {
			c.r.Sums[i].Result[k] = full(l)
		}
	}
	for _, lists := range [][][]bool{c.r.Vars, c.r.Code} {
		for i, l := range lists {
			lists[i] = full(l)
		}
	}
	return c
}

// spoil: everything that was handed in becomes something else, the spare room too.
func (g given) spoil() {
	for _, f := range g.p.Funcs {
		for _, c := range f.Code {
			fill(c.Args, mark)
			fill(c.Rets, mark)
		}
		fill(f.Code, api.Instr{Op: api.Call, N: mark})
	}
	fill(g.p.Funcs, api.Func{Vars: mark})
	for _, x := range places(g.r.Sums) {
		*x = mark
	}
	for _, x := range truths(g.r) {
		*x = !*x
	}
	fill(g.r.Sums, api.Summary{})
	fill(g.r.Vars, nil)
	fill(g.r.Code, nil)
	fill(g.b, 0xee)
}

// eachGiven: of programs by chance, with a certificate as it comes.
func eachGiven(t *testing.T, seeds int, do func(seed int, g given)) {
	t.Helper()
	many := 0
	for seed := range seeds {
		r := rand.New(rand.NewSource(int64(seed)))
		p := anyProgram(r, kinds[seed%len(kinds)])
		l := walked(r, p)
		if len(l) > 1 {
			many++
		}
		do(seed, given{roomyProgram(p), roomyResult(solved(t, p)), roomy(bytesOf(l...), 0)})
	}
	if many < seeds/3 {
		t.Errorf("only %d programs have more than one pass", many)
	}
}

func (g given) is(t *testing.T, seed int, what string, before given) {
	t.Helper()
	if !reflect.DeepEqual(g.inIt(), before) {
		t.Fatalf("P19.3: seed %d: %s", seed, what)
	}
}

func TestArgumentsStay(t *testing.T) {
	eachGiven(t, 500, func(seed int, g given) {
		before := g.inIt()
		b, e := cert.Make(g.p)
		g.is(t, seed, "Make changed its argument", before)
		fill(b, 0xee)
		g.is(t, seed, "Make's answer shares memory with its argument", before)
		f := cert.Check(g.p, g.r, g.b)
		g.is(t, seed, "Check changed an argument", before)
		if e != api.OK || f != api.OK {
			t.Fatalf("P19.3: seed %d: errors %d, %d", seed, e, f)
		}
		cert.Check(g.p, g.r, g.b[:len(g.b)-1]) // with an error neither
		cert.Check(g.p, g.r, g.b[:cap(g.b)])
		cert.Check(g.p, api.Result{Sums: g.r.Sums[1:], Vars: g.r.Vars, Code: g.r.Code}, g.b)
		g.is(t, seed, "an argument was changed by a call that is refused", before)
		g.p.Funcs[0].Results += 9
		before = g.inIt()
		cert.Make(g.p)
		cert.Check(g.p, g.r, g.b)
		g.is(t, seed, "an argument was changed where the program is wrong", before)
	})
}

// Spare room of what is handed in says nothing.
func TestSpareRoomSaysNothing(t *testing.T) {
	eachGiven(t, 500, func(seed int, g given) {
		accepts(t, "spare room", g.p, g.r, g.b)
		plain := api.Program{Globals: g.p.Globals, Funcs: slices.Clone(g.p.Funcs)}
		b, _ := cert.Make(g.p)
		if want, _ := cert.Make(plain); !slices.Equal(b, want) {
			t.Fatalf("R6: seed %d: with spare room %x, want %x", seed, b, want)
		}
		if passes, _ := passesOf(g.b); len(passes) > 0 {
			refuses(t, "the last pass in the spare room", g.p, g.r, roomy(g.b, 0)[:len(g.b)-2])
		}
		refuses(t, "the last truths in the spare room", g.p, api.Result{Sums: g.r.Sums, Vars: g.r.Vars, Code: roomy(g.r.Code, nil)[:len(g.r.Code)-1]}, g.b)
	})
}

// Neither what becomes of the arguments nor what becomes of other answers is seen in an answer, nor in what is answered later.
func TestAnswersAreTheirOwn(t *testing.T) {
	eachGiven(t, 500, func(seed int, g given) {
		one, _ := cert.Make(g.p)
		two, _ := cert.Make(g.p)
		want, spare := slices.Clone(one), full(one)
		fill(two, 0xee)
		if three, _ := cert.Make(g.p); !slices.Equal(one, want) || !slices.Equal(three, want) {
			t.Fatalf("P19.3: seed %d: a changed answer is seen in another one", seed)
		}
		accepts(t, "the answer", g.p, g.r, one)
		g.spoil()
		if !slices.Equal(full(one), spare) {
			t.Fatalf("P19.3: seed %d: an answer shares memory with what was handed in", seed)
		}
	})
}

// Nothing is kept of one call that is seen in the next: the same memory with another program, result and bytes in it is another question.
func TestMemoryUsedAgain(t *testing.T) {
	funcs, sums, vars, code, b := make([]api.Func, 20), make([]api.Summary, 20), make([][]bool, 20), make([][]bool, 20), make([]byte, 1000)
	eachGiven(t, 500, func(seed int, g given) {
		p := api.Program{Globals: g.p.Globals, Funcs: funcs[:copy(funcs, g.p.Funcs)]}
		r := api.Result{Sums: sums[:copy(sums, g.r.Sums)], Vars: vars[:copy(vars, g.r.Vars)], Code: code[:copy(code, g.r.Code)]}
		accepts(t, "memory used again", p, r, b[:copy(b, g.b)])
		made, _ := cert.Make(p)
		if want, _ := cert.Make(g.p); !slices.Equal(made, want) {
			t.Fatalf("R6: seed %d: memory used again: %x, want %x", seed, made, want)
		}
		if p.Funcs[0].Vars > 0 {
			p.Funcs[0].Vars = 0
			p.Funcs[0].Params = 1
			if _, e := cert.Make(p); e != api.ErrHead {
				t.Fatalf("R6: seed %d: memory used again with a wrong program: error %d", seed, e)
			}
		}
	})
}

// The same answers at one time.
func TestAtOneTime(t *testing.T) {
	eachGiven(t, 20, func(seed int, g given) {
		want, _ := cert.Make(g.p)
		good := make(chan bool)
		for range 8 {
			go func() {
				is := true
				for range 20 {
					b, e := cert.Make(g.p)
					is = is && e == api.OK && slices.Equal(b, want) && cert.Check(g.p, g.r, g.b) == api.OK && cert.Check(g.p, g.r, nil) == api.ErrCert
				}
				good <- is
			}()
		}
		for range 8 {
			if !<-good {
				t.Errorf("R6: seed %d: asked at one time it answers otherwise", seed)
			}
		}
	})
}
