package whole_test

import (
	"math/rand"
	"reflect"
	"slices"
	"testing"

	"fugue/api"
	"fugue/whole"
)

const mark = -77 // stands in spare room

// roomy: the same list with spare room behind it, in which more stands.
func roomy[T any](l []T, more T) []T {
	return append(append(make([]T, 0, len(l)+2), l...), more, more)[:len(l)]
}

func fill[T any](l []T, x T) {
	l = l[:cap(l)]
	for i := range l {
		l[i] = x
	}
}

// full: a list with its spare room, in new memory.
func full[T any](l []T) []T { return slices.Clone(l[:cap(l)]) }

func strange() api.Instr { return api.Instr{Op: mark, R: mark, Args: []int{mark}} }

// given: all that may be handed in, each list with spare room.
type given struct {
	p     api.Program
	sums  []api.Summary
	picks []int
}

func anyGiven(r *rand.Rand) given {
	p := anyProgram(r, 5, 14)
	g := given{api.Program{Globals: p.Globals}, roomy(anySums(r, p), one(mark, mark)), roomy(anyPicks(r), mark)}
	for _, f := range p.Funcs {
		f.Code = roomy(f.Code, strange())
		for at, x := range f.Code {
			f.Code[at].Args, f.Code[at].Rets = roomy(x.Args, mark), roomy(x.Rets, mark)
		}
		g.p.Funcs = append(g.p.Funcs, f)
	}
	g.p.Funcs = roomy(g.p.Funcs, api.Func{Params: mark, Code: []api.Instr{strange()}})
	for i, s := range g.sums {
		for k, l := range s.Result {
			s.Result[k] = roomy(l, mark)
		}
		g.sums[i] = api.Summary{Heap: roomy(s.Heap, mark), Result: roomy(s.Result, []int{mark})}
	}
	return g
}

// copied: all that stands in it, in spare room too, in new memory.
func (g given) copied() given {
	c := given{g.p, full(g.sums), full(g.picks)}
	c.p.Funcs = full(g.p.Funcs)
	for i := range c.p.Funcs {
		f := &c.p.Funcs[i]
		f.Code = full(f.Code)
		for at := range f.Code {
			f.Code[at].Args, f.Code[at].Rets = full(f.Code[at].Args), full(f.Code[at].Rets)
		}
	}
	for i, s := range c.sums {
		c.sums[i] = api.Summary{Heap: full(s.Heap), Result: full(s.Result)}
		for k, l := range c.sums[i].Result {
			c.sums[i].Result[k] = full(l)
		}
	}
	return c
}

func wipeSums(l []api.Summary) {
	for _, s := range l[:cap(l)] {
		fill(s.Heap, mark)
		for _, n := range s.Result[:cap(s.Result)] {
			fill(n, mark)
		}
		fill(s.Result, nil)
	}
	fill(l, api.Summary{})
}

func (g given) wipe() {
	for _, f := range g.p.Funcs {
		fill(f.Code, strange())
	}
	fill(g.p.Funcs, api.Func{})
	wipeSums(g.sums)
	fill(g.picks, mark)
}

// ask: all results that are told of what is given.
func (g given) ask() []api.Result {
	a, _ := whole.Solve(g.p)
	b, _ := whole.Anyhow(g.p, g.picks...)
	c, _ := whole.Place(g.p, g.sums)
	whole.Is(g.p, g.sums)
	return []api.Result{a, b, c}
}

func (g given) askWrong() {
	whole.Place(g.p, g.sums[1:])
	whole.Is(g.p, append(slices.Clone(g.sums), api.Summary{}))
	whole.Solve(api.Program{Globals: 99, Funcs: g.p.Funcs})
	whole.Anyhow(api.Program{Globals: 99, Funcs: g.p.Funcs}, g.picks...)
}

func copiedResult(r api.Result) api.Result {
	c := api.Result{Sums: slices.Clone(r.Sums), Vars: slices.Clone(r.Vars), Code: slices.Clone(r.Code)}
	for i, s := range c.Sums {
		c.Sums[i] = api.Summary{Heap: slices.Clone(s.Heap), Result: slices.Clone(s.Result)}
		for k, l := range s.Result {
			c.Sums[i].Result[k] = slices.Clone(l)
		}
		c.Vars[i], c.Code[i] = slices.Clone(c.Vars[i]), slices.Clone(c.Code[i])
	}
	return c
}

// wipe: nothing is left of a result, in spare room neither.
func wipe(r api.Result) {
	wipeSums(r.Sums)
	for _, l := range [][][]bool{r.Vars, r.Code} {
		for _, on := range l[:cap(l)] {
			on = on[:cap(on)]
			for i := range on {
				on[i] = !on[i]
			}
		}
		fill(l, nil)
	}
}

func TestArgumentsStay(t *testing.T) {
	for seed := range 200 {
		g := anyGiven(rand.New(rand.NewSource(int64(seed))))
		before := g.copied()
		g.ask()
		g.askWrong()
		if !reflect.DeepEqual(g.copied(), before) {
			t.Fatalf("P10.5: seed %d: an argument was changed", seed)
		}
	}
}

// Neither what becomes of the arguments nor what becomes of the other answers is seen in an answer.
func TestAnswersAreTheirOwn(t *testing.T) {
	for seed := range 200 {
		for keep := range 6 {
			g := anyGiven(rand.New(rand.NewSource(int64(seed))))
			answers := append(g.ask(), g.ask()...)
			want := copiedResult(answers[keep])
			g.wipe()
			for i, r := range answers {
				if i != keep {
					wipe(r)
				}
			}
			if !alike(answers[keep], want) {
				t.Fatalf("P10.5: seed %d: the answer %d shares memory", seed, keep)
			}
		}
	}
}

// ownRooms: no two lists share memory, spare room too: each is filled with its number, which then stands there still.
func ownRooms[T any](t *testing.T, what string, lists [][]T, number func(int) T, is func(T, int) bool) {
	t.Helper()
	for i, l := range lists {
		fill(l, number(i))
	}
	for i, l := range lists {
		for _, x := range l[:cap(l)] {
			if !is(x, i) {
				t.Fatalf("P10.5: %s: the list %d shares memory with another", what, i)
			}
		}
	}
}

func TestListsOfOneAnswer(t *testing.T) {
	for seed := range 100 {
		g := anyGiven(rand.New(rand.NewSource(int64(seed))))
		for _, r := range g.ask() {
			numbers := [][]int{}
			for _, s := range r.Sums {
				numbers = append(append(numbers, s.Heap), s.Result...)
			}
			ownRooms(t, "numbers", numbers, func(i int) int { return i }, func(x, i int) bool { return x == i })
			truths := append(slices.Clone(r.Vars), r.Code...)
			for bit := 1; bit <= len(truths); bit *= 2 { // a truth holds no number: bit by bit
				has := func(i int) bool { return i&bit > 0 }
				ownRooms(t, "truths", truths, has, func(x bool, i int) bool { return x == has(i) })
			}
			ownRooms(t, "lists of truths", [][][]bool{r.Vars, r.Code}, func(i int) []bool { return make([]bool, i) }, func(x []bool, i int) bool { return len(x) == i })
		}
	}
}

// The same arguments have the same answer each time, at one time too.
func TestAtOneTime(t *testing.T) {
	g := anyGiven(rand.New(rand.NewSource(7)))
	want := g.ask()
	good := make(chan bool)
	for range 8 {
		go func() {
			same := true
			for range 50 {
				same = same && slices.EqualFunc(g.ask(), want, alike)
				g.askWrong()
			}
			good <- same
		}()
	}
	for range 8 {
		if !<-good {
			t.Error("R6: asked at one time: another answer")
		}
	}
}
