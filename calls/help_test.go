package calls_test

import (
	"math/rand"
	"slices"
	"testing"

	"fugue/api"
	"fugue/calls"
)

// program: each function calls those of a list, in its order.
func program(lists ...[]int) api.Program {
	var p api.Program
	for _, l := range lists {
		var f api.Func
		for _, g := range l {
			f.Code = append(f.Code, api.Instr{Op: api.Call, N: g})
		}
		f.Code = append(f.Code, api.Instr{Op: api.Return})
		p.Funcs = append(p.Funcs, f)
	}
	return p
}

// graph: that of a right program.
func graph(t *testing.T, p api.Program) *calls.Graph {
	t.Helper()
	g, e := calls.New(p)
	if e != api.OK || g == nil {
		t.Fatalf("P5.1 New: %v, %d", g, e)
	}
	return g
}

// told: all that a graph tells of its functions and components.
type told struct {
	of                        []int
	members, callees, callers [][]int
}

func tell(g *calls.Graph, functions int) told {
	var s told
	for f := range functions {
		s.of = append(s.of, g.Of(f))
	}
	for c := range g.Len() {
		s.members = append(s.members, g.Members(c))
		s.callees = append(s.callees, g.Callees(c))
		s.callers = append(s.callers, g.Callers(c))
	}
	return s
}

func sameLists(a, b [][]int) bool { return slices.EqualFunc(a, b, slices.Equal[[]int]) }

func (s told) same(o told) bool {
	return slices.Equal(s.of, o.of) && sameLists(s.members, o.members) && sameLists(s.callees, o.callees) && sameLists(s.callers, o.callers)
}

// tells: the graph of the program has these components with these callees, and tells nothing beyond them.
func tells(t *testing.T, what string, p api.Program, members, callees [][]int) {
	t.Helper()
	want := told{of: make([]int, len(p.Funcs)), members: members, callees: callees, callers: make([][]int, len(members))}
	for c, l := range members {
		for _, f := range l {
			want.of[f] = c
		}
		for _, d := range callees[c] {
			want.callers[d] = append(want.callers[d], c)
		}
	}
	g := graph(t, p)
	if got := tell(g, len(p.Funcs)); !got.same(want) {
		t.Errorf("P5.2 %s: %+v, want %+v", what, got, want)
	}
	tellsNothingElse(t, what, g, len(p.Funcs))
}

// tellsNothingElse: of numbers that are none it tells none.
func tellsNothingElse(t *testing.T, what string, g *calls.Graph, functions int) {
	t.Helper()
	far := []int{1, 2, 1 << 16, 1 << 32, 1<<63 - 1}
	for _, n := range far {
		for _, f := range []int{-n, max(functions, n), functions + n - 1} {
			if c := g.Of(f); c != -1 {
				t.Errorf("P5.2 %s: Of(%d) = %d", what, f, c)
			}
		}
		for _, c := range []int{-n, max(g.Len(), n), g.Len() + n - 1} {
			if len(g.Members(c)) != 0 || len(g.Callees(c)) != 0 || len(g.Callers(c)) != 0 {
				t.Errorf("P5.2 %s: the component %d, which is none, has %v, %v, %v", what, c, g.Members(c), g.Callees(c), g.Callers(c))
			}
		}
	}
}

// anyLists: of so many functions, of which each calls at most so many.
func anyLists(r *rand.Rand, functions, most int) [][]int {
	lists := make([][]int, functions)
	for f := range lists {
		for range r.Intn(most + 1) {
			lists[f] = append(lists[f], r.Intn(functions))
		}
	}
	return lists
}

// renumbered: the lists of the same functions, f with the number as[f].
func renumbered(lists [][]int, as []int) [][]int {
	out := make([][]int, len(lists))
	for f, l := range lists {
		for _, g := range l {
			out[as[f]] = append(out[as[f]], as[g])
		}
	}
	return out
}
