package whole

import (
	"math"
	"math/rand"
	"slices"
	"testing"

	"fugue/api"
)

// The open function that a pick names, held against a list in rising order.
func TestOpenByPicks(t *testing.T) {
	for seed := range 300 {
		r := rand.New(rand.NewSource(int64(seed)))
		many := 1 + r.Intn(3*row)
		o := newOpen(many)
		var in []int
		for f := range many {
			in = append(in, f)
		}
		for range 300 {
			if f := r.Intn(many); len(in) == 0 || r.Intn(3) == 0 {
				o.put(f)
				if at, is := slices.BinarySearch(in, f); !is {
					in = slices.Insert(in, at, f)
				}
				continue
			}
			k := []int{r.Intn(2000) - 1000, int(r.Uint64()), math.MinInt, math.MaxInt, 0, -1}[r.Intn(6)]
			place := k % len(in)
			if place < 0 {
				place += len(in)
			}
			if f := o.take(k); f != in[place] {
				t.Fatalf("P10.4: seed %d: the pick %d of %v: %d, want %d", seed, k, in, f, in[place])
			}
			in = slices.Delete(in, place, place+1)
			if o.many() != len(in) {
				t.Fatalf("P10.4: seed %d: %d are open, want %d", seed, o.many(), len(in))
			}
		}
	}
}

// stepped: a solver in which these functions alone are open.
func stepped(p api.Program, functions ...int) *solver {
	s := newSolver(p)
	s.open = newOpen(0)
	s.open.rows = make([]int, len(p.Funcs)/row+1)
	for _, f := range functions {
		s.open.put(f)
	}
	return s
}

func (s *solver) isOpen() []int {
	var l []int
	for f := range s.p.Funcs {
		if s.open.has(f) {
			l = append(l, f)
		}
	}
	return l
}

func opens(t *testing.T, what string, s *solver, f int, want ...int) {
	t.Helper()
	s.pass(f)
	if l := s.isOpen(); !slices.Equal(l, want) {
		t.Errorf("P10.4: %s: behind a pass of %d are open: %v, want %v", what, f, l, want)
	}
}

// Who is open behind a pass: the callers of one whose summary changed, nobody else.
func TestPassOpensCallers(t *testing.T) {
	call := func(n int) api.Instr { return api.Instr{Op: api.Call, N: n, Args: []int{0}, Rets: []int{0}} }
	ret := api.Instr{Op: api.Return, Args: []int{0}}
	f := func(code ...api.Instr) api.Func {
		return api.Func{Params: 1, Results: 1, Vars: 1, Code: append(code, ret)}
	}
	p := api.Program{Globals: 1, Funcs: []api.Func{
		f(call(1), call(3), call(1)), f(call(1), call(2)), f(), f(call(2), call(0), call(2)), f(call(4)),
	}}
	s := stepped(p)
	opens(t, "it is called by two", s, 2, 1, 3)
	opens(t, "nothing changed", s, 2, 1, 3)
	opens(t, "it calls itself", s, 1, 0, 1, 3)
	opens(t, "it calls itself, nothing changed", stepped(api.Program{Funcs: []api.Func{{Code: []api.Instr{{Op: api.Call}, {Op: api.Return}}}}}), 0)
	opens(t, "nobody else calls it", stepped(p), 4, 4)
	want := [][]int{{3}, {0, 1}, {1, 3}, {0}, {4}}
	if l := callers(p); !slices.EqualFunc(l, want, slices.Equal) {
		t.Errorf("P10.4: callers: %v, want %v", l, want)
	}
}

// All functions are open at the beginning, all summaries the lowest; each pick takes one in its turn.
func TestFirstTurns(t *testing.T) {
	f := api.Func{Params: 1, Results: 1, Vars: 1, Code: []api.Instr{{Op: api.Return, Args: []int{0}}}}
	s := newSolver(api.Program{Funcs: []api.Func{f, f, f, f, f}})
	if !slices.Equal(s.isOpen(), []int{0, 1, 2, 3, 4}) {
		t.Errorf("P10.4: open at the beginning: %v", s.isOpen())
	}
	for _, sum := range s.sums {
		if sum.Heap[0] != api.None || sum.Result[0][0] != api.None {
			t.Errorf("P10.4: at the beginning: %v", s.sums)
		}
	}
	for i, want := range []int{2, 4, 1, 0, 3} {
		if got := s.open.take([]int{7, -1, 1, 0, -9}[i]); got != want {
			t.Errorf("P10.4: turn %d: %d, want %d", i, got, want)
		}
	}
}

// Each pick once, in its turn; behind the last one the lowest function's.
func TestPicksInTurn(t *testing.T) {
	for turn, want := range []int{5, -3, math.MaxInt, 0, 0, 0} {
		if k := pickOf([]int{5, -3, math.MaxInt}, turn); k != want {
			t.Errorf("P10.4: turn %d: the pick %d, want %d", turn, k, want)
		}
		if k := pickOf(nil, turn); k != 0 {
			t.Errorf("P10.4: turn %d without picks: the pick %d, want 0", turn, k)
		}
	}
}
