package plan_test

import (
	"math"
	"math/rand"
	"slices"
	"testing"

	"fugue/api"
	"fugue/plan"
)

const mark = -77 // stands in spare room

// roomy: the same list with spare room behind it, in which more stands.
func roomy[T any](l []T, more T) []T {
	return append(append(make([]T, 0, len(l)+3), l...), more, more, more)[:len(l)]
}

func fill[T any](l []T, x T) {
	l = l[:cap(l)]
	for i := range l {
		l[i] = x
	}
}

// full: a list with its spare room, in new memory.
func full[T any](l []T) []T { return slices.Clone(l[:cap(l)]) }

// roomyProgram: the same program with spare room behind each list: behind a code Addrs stand, behind the functions right ones.
func roomyProgram(p api.Program) api.Program {
	q := api.Program{Globals: p.Globals}
	for _, f := range p.Funcs {
		c := slices.Clone(f.Code)
		for k, x := range c {
			c[k].Args, c[k].Rets = roomy(x.Args, mark), roomy(x.Rets, mark)
		}
		f.Code = roomy(c, api.Instr{Op: api.Addr})
		q.Funcs = append(q.Funcs, f)
	}
	q.Funcs = roomy(q.Funcs, plainFunc(0, ret()))
	return q
}

// numbers: all that is in a program, its spare room too.
func numbers(p api.Program) []int {
	out := []int{p.Globals, len(p.Funcs)}
	for _, f := range p.Funcs[:cap(p.Funcs)] {
		out = append(out, f.Params, f.Results, f.Vars, len(f.Code))
		for _, c := range f.Code[:cap(f.Code)] {
			out = append(out, c.Op, c.R, c.S, c.T, c.N, len(c.Args), len(c.Rets))
			out = append(out, c.Args[:cap(c.Args)]...)
			out = append(out, c.Rets[:cap(c.Rets)]...)
		}
	}
	return out
}

// spoil: everything in a program becomes something else, the spare room too.
func spoil(p api.Program) {
	for _, f := range p.Funcs {
		for _, c := range f.Code {
			fill(c.Args, mark)
			fill(c.Rets, mark)
		}
		fill(f.Code, api.Instr{Op: api.Call, N: mark})
	}
	fill(p.Funcs, api.Func{Vars: mark})
}

// given: all that may be handed in, each list with spare room.
type given struct {
	p                api.Program
	ms               []api.Move
	callee, function int
}

func anyGiven(r *rand.Rand) given {
	p := anyProgram(r, kinds[r.Intn(3)])
	ms := anyMoves(r, p, candidates(p, reaching(p)))
	return given{roomyProgram(p), roomy(ms, api.Move{Func: mark, At: mark}), anyBudget(r, 20), anyBudget(r, 200)}
}

func (g given) make(t *testing.T) []api.Move {
	t.Helper()
	l, e := plan.Make(g.p, g.callee, g.function)
	if e != api.OK {
		t.Fatalf("P16.2: error %d", e)
	}
	return l
}

func TestArgumentsStay(t *testing.T) {
	for seed := range 600 {
		g := anyGiven(rand.New(rand.NewSource(int64(seed))))
		was, moves := numbers(g.p), full(g.ms)
		g.make(t)
		plan.Check(g.p, g.ms)
		if !slices.Equal(numbers(g.p), was) || !slices.Equal(full(g.ms), moves) {
			t.Fatalf("P16.3: seed %d: an argument was changed", seed)
		}
		g.p.Funcs[0].Results++ // with an error neither
		was = numbers(g.p)
		plan.Make(g.p, g.callee, g.function)
		plan.Check(g.p, g.ms)
		if !slices.Equal(numbers(g.p), was) || !slices.Equal(full(g.ms), moves) {
			t.Fatalf("P16.3: seed %d: an argument was changed by a call that is refused", seed)
		}
	}
}

// Spare room of what is handed in says nothing.
func TestSpareRoomSaysNothing(t *testing.T) {
	for seed := range 600 {
		r := rand.New(rand.NewSource(int64(seed)))
		p := anyProgram(r, kinds[r.Intn(3)])
		reach := reaching(p)
		ms := anyMoves(r, p, candidates(p, reach))
		want := api.ErrPlan
		if plainPlan(p, reach, ms) {
			want = api.OK
		}
		q := roomyProgram(p)
		checked(t, "with spare room", q, roomy(ms, api.Move{}), want)
		tight, e := plan.Make(p, 20, 200)
		loose, f := plan.Make(q, 20, 200)
		if e != api.OK || f != api.OK || !slices.Equal(tight, loose) {
			t.Fatalf("R6: seed %d: spare room makes a difference: %v and %v", seed, tight, loose)
		}
	}
	p := ladder(t)
	checked(t, "a first part of a list that is no plan", p, moves(0, 1, 0, 1)[:1], api.OK)
	checked(t, "a later part of a list that is no plan", p, moves(0, 1, 0, 1)[1:], api.OK)
}

// Neither what becomes of the arguments nor what becomes of other answers is seen in an answer, in its spare room neither.
func TestAnswersAreTheirOwn(t *testing.T) {
	long := 0
	for seed := range 400 {
		g := anyGiven(rand.New(rand.NewSource(int64(seed))))
		g.callee, g.function = math.MaxInt, math.MaxInt
		one, two := g.make(t), g.make(t)
		want := full(one)
		spoil(g.p)
		fill(g.ms, api.Move{Func: mark, At: mark})
		fill(two, api.Move{Func: mark, At: mark})
		_ = append(two, api.Move{Func: mark, At: mark})
		if !slices.Equal(full(one), want) {
			t.Fatalf("P16.3: seed %d: an answer shares memory: %v, want %v", seed, one, want)
		}
		if len(one) > 3 {
			long++
		}
	}
	if long < 50 {
		t.Errorf("only %d answers of more than three moves", long)
	}
}

// What becomes of an answer is not seen in the arguments, nor in what is answered later.
func TestAnswersThatAreChanged(t *testing.T) {
	for seed := range 400 {
		g := anyGiven(rand.New(rand.NewSource(int64(seed))))
		was := numbers(g.p)
		l := g.make(t)
		want := slices.Clone(l)
		fill(l, api.Move{Func: mark, At: mark})
		if !slices.Equal(numbers(g.p), was) {
			t.Fatalf("P16.3: seed %d: an answer shares memory with the program", seed)
		}
		if again := g.make(t); !slices.Equal(again, want) {
			t.Fatalf("P16.3: seed %d: a changed answer is seen in a later one: %v, want %v", seed, again, want)
		}
		checked(t, "what was made", g.p, want, api.OK)
	}
}

// Nothing is kept of one call that is seen in the next: the same memory with another program and other moves in it is another question.
func TestMemoryUsedAgain(t *testing.T) {
	funcs, list := make([]api.Func, 20), make([]api.Move, 1000)
	for seed := range 600 {
		r := rand.New(rand.NewSource(int64(seed)))
		p := anyProgram(r, kinds[r.Intn(3)])
		reach := reaching(p)
		ms := anyMoves(r, p, candidates(p, reach))
		want := api.ErrPlan
		if plainPlan(p, reach, ms) {
			want = api.OK
		}
		q := api.Program{Globals: p.Globals, Funcs: funcs[:copy(funcs, p.Funcs)]}
		checked(t, "memory used again", q, list[:copy(list, ms)], want)
		made(t, "memory used again", q, 9, 60, plainMake(p, reach, 9, 60))
	}
}

// The same answers at one time.
func TestAtOneTime(t *testing.T) {
	g := anyGiven(rand.New(rand.NewSource(3)))
	g.callee, g.function = math.MaxInt, math.MaxInt
	want, e := g.make(t), plan.Check(g.p, g.ms)
	good := make(chan bool)
	for range 8 {
		go func() {
			same := true
			for range 100 {
				l, f := plan.Make(g.p, g.callee, g.function)
				same = same && f == api.OK && slices.Equal(l, want) && plan.Check(g.p, g.ms) == e
			}
			good <- same
		}()
	}
	for range 8 {
		if !<-good {
			t.Error("R6: asked at one time it answers otherwise")
		}
	}
}
