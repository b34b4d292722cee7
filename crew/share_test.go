package crew_test

import (
	"math/rand"
	"reflect"
	"slices"
	"testing"

	"fugue/api"
	"fugue/crew"
)

const mark = -77 // stands in spare room

// roomy: the same list with spare room behind it, in which more stands.
func roomy[T any](l []T, more T) []T {
	return append(append(make([]T, 0, len(l)+2), l...), more, more)[:len(l)]
}

func fill[T any](l []T, x T) {
	l = l[:cap(l)]
	for i := range l {
		l[i] = x
	}
}

// full: a list with its spare room, in new memory.
func full[T any](l []T) []T { return slices.Clone(l[:cap(l)]) }

func strange() api.Instr { return api.Instr{Op: mark, R: mark, Args: []int{mark}} }

// given: all that may be handed in, each list with spare room.
type given struct {
	p       api.Program
	workers int
	script  []int
}

func anyGiven(r *rand.Rand) given {
	p := anyProgram(r, 7, 9)
	g := given{api.Program{Globals: p.Globals}, 1 + r.Intn(6), roomy(anyScript(r, 60), mark)}
	for _, f := range p.Funcs {
		f.Code = roomy(f.Code, strange())
		for at, x := range f.Code {
			f.Code[at].Args, f.Code[at].Rets = roomy(x.Args, mark), roomy(x.Rets, mark)
		}
		g.p.Funcs = append(g.p.Funcs, f)
	}
	g.p.Funcs = roomy(g.p.Funcs, api.Func{Params: mark, Code: []api.Instr{strange()}})
	return g
}

// copied: all that stands in it, in spare room too, in new memory.
func (g given) copied() given {
	c := given{g.p, g.workers, full(g.script)}
	c.p.Funcs = full(g.p.Funcs)
	for i := range c.p.Funcs {
		f := &c.p.Funcs[i]
		f.Code = full(f.Code)
		for at := range f.Code {
			f.Code[at].Args, f.Code[at].Rets = full(f.Code[at].Args), full(f.Code[at].Rets)
		}
	}
	return c
}

func (g given) wipe() {
	for _, f := range g.p.Funcs {
		for _, x := range f.Code {
			fill(x.Args, mark)
			fill(x.Rets, mark)
		}
		fill(f.Code, strange())
	}
	fill(g.p.Funcs, api.Func{})
	fill(g.script, mark)
}

// answer: of one of the calls.
type answer struct {
	sums   []api.Summary
	events []api.Event
}

// ask: all answers that are lists.
func (g given) ask() []answer {
	l, h, _ := crew.Scripted(g.p, g.workers, g.script...)
	free, _ := crew.Free(g.p, g.workers)
	crew.Bound(g.p, g.workers)
	return []answer{{l, h}, {sums: free}}
}

func (g given) askWrong() {
	for _, workers := range []int{0, 65, g.workers} {
		wrong := api.Program{Globals: 99, Funcs: g.p.Funcs}
		crew.Scripted(wrong, workers, g.script...)
		crew.Free(wrong, workers)
		crew.Bound(wrong, workers)
	}
}

func (a answer) copied() answer {
	c := answer{slices.Clone(a.sums), slices.Clone(a.events)}
	for i, s := range c.sums {
		c.sums[i] = api.Summary{Heap: slices.Clone(s.Heap), Result: slices.Clone(s.Result)}
		for k, l := range s.Result {
			c.sums[i].Result[k] = slices.Clone(l)
		}
	}
	return c
}

// wipe: nothing is left of an answer, in spare room neither.
func (a answer) wipe() {
	for _, s := range a.sums[:cap(a.sums)] {
		fill(s.Heap, mark)
		for _, n := range s.Result[:cap(s.Result)] {
			fill(n, mark)
		}
		fill(s.Result, nil)
	}
	fill(a.sums, api.Summary{})
	fill(a.events, api.Event{Worker: mark})
}

func (a answer) alike(b answer) bool {
	return alikeSums(a.sums, b.sums) && slices.Equal(a.events, b.events)
}

func TestArgumentsStay(t *testing.T) {
	for seed := range 200 {
		g := anyGiven(rand.New(rand.NewSource(int64(seed))))
		before := g.copied()
		g.ask()
		g.askWrong()
		if !reflect.DeepEqual(g.copied(), before) {
			t.Fatalf("P14.5: seed %d: an argument was changed", seed)
		}
	}
}

// Spare room of what is handed in says nothing.
func TestSpareRoomSaysNothing(t *testing.T) {
	for seed := range 100 {
		g := anyGiven(rand.New(rand.NewSource(int64(seed))))
		tight := given{api.Program{Globals: g.p.Globals, Funcs: slices.Clip(slices.Clone(g.p.Funcs))}, g.workers, slices.Clip(slices.Clone(g.script))}
		for i, a := range g.ask() {
			if !a.alike(tight.ask()[i]) {
				t.Fatalf("R6: seed %d: spare room makes a difference", seed)
			}
		}
	}
}

// Neither what becomes of the arguments nor what becomes of the other answers is seen in an answer.
func TestAnswersAreTheirOwn(t *testing.T) {
	for seed := range 150 {
		for keep := range 4 {
			g := anyGiven(rand.New(rand.NewSource(int64(seed))))
			answers := append(g.ask(), g.ask()...)
			want := answers[keep].copied()
			g.wipe()
			for i, a := range answers {
				if i != keep {
					a.wipe()
				}
			}
			if !answers[keep].alike(want) {
				t.Fatalf("P14.5: seed %d: the answer %d shares memory", seed, keep)
			}
		}
	}
}

// An answer's lists share no memory, spare room neither: each is filled with its number, which then stands there still.
func TestListsOfOneAnswer(t *testing.T) {
	for seed := range 100 {
		g := anyGiven(rand.New(rand.NewSource(int64(seed))))
		for _, a := range g.ask() {
			var numbers [][]int
			for _, s := range a.sums {
				numbers = append(append(numbers, s.Heap), s.Result...)
			}
			for i, l := range numbers {
				fill(l, i)
			}
			for i, l := range numbers {
				for _, x := range l[:cap(l)] {
					if x != i {
						t.Fatalf("P14.5: seed %d: the lists %d and %d share memory", seed, i, x)
					}
				}
			}
			for i, s := range a.sums {
				fill(s.Result, make([]int, i))
			}
			for i, s := range a.sums {
				for _, l := range s.Result[:cap(s.Result)] {
					if len(l) != i {
						t.Fatalf("P14.5: seed %d: the lists of %d and %d share memory", seed, i, len(l))
					}
				}
			}
		}
	}
}

// The arguments may be read by others meanwhile: nobody writes there.
func TestAtOneTime(t *testing.T) {
	g := anyGiven(rand.New(rand.NewSource(7)))
	want := g.ask()
	together(t, 8, func(int) {
		for range 30 {
			if !slices.EqualFunc(g.ask(), want, answer.alike) {
				t.Error("R6: asked at one time: another answer")
			}
			g.askWrong()
		}
	})
}
