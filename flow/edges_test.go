package flow_test

import (
	"slices"
	"testing"

	"fugue/api"
	"fugue/flow"
)

func TestTheChaptersExamples(t *testing.T) {
	f := api.Func{Params: 2, Results: 1, Vars: 4, Code: []api.Instr{{Op: api.Addr, R: 2}, {Op: api.New, R: 3, N: 2}, {Op: api.Store, R: 3, S: 1, N: 1}, ret(2)}}
	p := program(0, head(0, 0, 0), f)
	gives(t, "the first example", p, 1, lowest(p), e(4, 2, -1), e(5, 6, -1), e(0, 3, 0), e(1, 4, 0))
	p = program(0, with(head(0, 0, 2), call(1, []int{0}, []int{1, 1}), ret()), head(1, 2, 1))
	gives(t, "the second example", p, 0, []api.Summary{{}, {Heap: []int{2}, Result: [][]int{{none, 0}}}}, e(0, 1, 2), e(2, 1, 0))
}

// Each operation alone, in a function with two results and three variables: they are 3, 4 and 5, a New is 6.
func TestEachOperation(t *testing.T) {
	for _, x := range []struct {
		what string
		in   api.Instr
		want []api.Edge
	}{
		{"Int", api.Instr{Op: api.Int, R: 1, N: 2}, nil},
		{"Copy", api.Instr{Op: api.Copy, R: 1, S: 2}, list(e(4, 5, 0))},
		{"Copy onto itself", api.Instr{Op: api.Copy, R: 1, S: 1}, list(e(4, 4, 0))},
		{"Add", api.Instr{Op: api.Add, R: 0, S: 1, T: 2}, nil},
		{"Less", api.Instr{Op: api.Less, R: 0, S: 1, T: 2}, nil},
		{"Addr", api.Instr{Op: api.Addr, R: 2, S: 0}, list(e(5, 3, -1))},
		{"Addr of itself", api.Instr{Op: api.Addr, R: 2, S: 2}, list(e(5, 5, -1))},
		{"New", api.Instr{Op: api.New, R: 1, N: 8}, list(e(4, 6, -1))},
		{"Load", api.Instr{Op: api.Load, R: 0, S: 2, N: 7}, list(e(3, 5, 1))},
		{"Store", api.Instr{Op: api.Store, R: 0, S: 2, N: 7}, list(e(0, 5, 0))},
		{"Get", api.Instr{Op: api.Get, R: 2, N: 1}, nil},
		{"Set", api.Instr{Op: api.Set, S: 1, N: 1}, list(e(0, 4, 0))},
		{"Call", call(1, []int{2}, []int{1}), list(e(0, 5, 3), e(4, 5, 2))},
		{"Print", api.Instr{Op: api.Print, S: 2}, nil},
		{"Jump", api.Instr{Op: api.Jump, N: 1}, nil},
		{"If", api.Instr{Op: api.If, S: 2, N: 1}, nil},
		{"Return", ret(2, 0), list(e(1, 5, 0), e(2, 3, 0))},
		{"Null", api.Instr{Op: api.Null, R: 2}, nil},
		{"Same", api.Instr{Op: api.Same, R: 0, S: 1, T: 2}, nil},
	} {
		p := program(2, with(head(0, 2, 3), x.in, api.Instr{Op: api.Jump}), head(1, 1, 1))
		gives(t, x.what, p, 0, []api.Summary{{}, {Heap: []int{3}, Result: [][]int{{2}}}}, x.want...)
	}
}

// As many of each as there may be; the same variable may stand in several places.
func TestReturns(t *testing.T) {
	for results := range api.MaxResults + 1 {
		var args []int
		var want []api.Edge
		for j := range results {
			args = append(args, 254-j)
			want = append(want, e(1+j, 1+results+254-j, 0))
		}
		p := program(0, with(head(0, results, 255), ret(args...)))
		gives(t, "a Return", p, 0, lowest(p), want...)
	}
	p := program(0, with(head(1, 3, 2), ret(1, 1, 0), ret(0, 0, 0)))
	gives(t, "Returns of one variable", p, 0, lowest(p), e(1, 5, 0), e(2, 5, 0), e(3, 4, 0), e(1, 4, 0), e(2, 4, 0), e(3, 4, 0))
}

func TestCalls(t *testing.T) {
	g := head(8, 4, 8)
	args, rets := []int{0, 1, 2, 3, 4, 5, 6, 6}, []int{7, 8, 9, 9}
	p := program(0, with(head(0, 1, 10), call(1, args, rets), ret(0)), g)
	sums := lowest(p)
	gives(t, "None everywhere", p, 0, sums, e(1, 2, 0))
	for d := range api.MaxDeref + 1 {
		sums[1] = every(g, d)
		var want []api.Edge
		for _, v := range args {
			want = append(want, e(0, 2+v, d))
			for _, r := range rets {
				want = append(want, e(2+r, 2+v, d))
			}
		}
		gives(t, "the same everywhere", p, 0, sums, append(want, e(1, 2, 0))...)
	}
	for i := range 8 { // one number alone, and all but that one
		sums[1] = every(g, none)
		sums[1].Heap[i] = 3
		gives(t, "one parameter to the heap", p, 0, sums, e(0, 2+args[i], 3), e(1, 2, 0))
		for j := range 4 {
			sums[1] = every(g, none)
			sums[1].Result[i][j] = 1
			gives(t, "one parameter to a result", p, 0, sums, e(2+rets[j], 2+args[i], 1), e(1, 2, 0))
		}
	}
}

// None at each place leaves out just that edge.
func TestNoneAtEachPlace(t *testing.T) {
	g := head(3, 2, 3)
	p := program(0, with(head(0, 0, 3), call(1, []int{2, 1, 0}, []int{0, 2}), ret()), g)
	full := list(e(0, 3, 1), e(1, 3, 1), e(3, 3, 1), e(0, 2, 1), e(1, 2, 1), e(3, 2, 1), e(0, 1, 1), e(1, 1, 1), e(3, 1, 1))
	for at := range full {
		s := every(g, 1)
		if i, j := at/3, at%3-1; j < 0 {
			s.Heap[i] = none
		} else {
			s.Result[i][j] = none
		}
		gives(t, "None at one place", p, 0, []api.Summary{{}, s}, slices.Delete(slices.Clone(full), at, at+1)...)
	}
}

func TestCallsOfAnother(t *testing.T) {
	a, b := head(1, 1, 1), head(2, 0, 2)
	f := with(head(1, 1, 3), call(2, []int{1, 2}, nil), call(1, []int{0}, []int{1}), call(0, []int{1}, []int{2}), call(2, []int{2, 1}, nil), ret(2))
	p := program(0, f, a, b)
	sums := []api.Summary{{Heap: []int{none}, Result: [][]int{{3}}}, {Heap: []int{1}, Result: [][]int{{0}}}, {Heap: []int{2, none}, Result: [][]int{nil, {}}}}
	gives(t, "several callees, itself among them", p, 0, sums, e(0, 3, 2), e(0, 2, 1), e(3, 2, 0), e(4, 3, 3), e(0, 4, 2), e(1, 4, 0))
	p = program(0, head(0, 0, 0), with(head(0, 1, 2), call(2, nil, []int{1}), ret(1)), head(0, 1, 0))
	gives(t, "a callee without parameters", p, 1, lowest(p), e(1, 3, 0))
	p = program(0, with(head(2, 0, 2), call(0, []int{1, 0}, nil), ret()))
	gives(t, "a callee without results", p, 0, []api.Summary{{Heap: []int{0, 2}, Result: make([][]int, 2)}}, e(0, 2, 0), e(0, 1, 2))
	gives(t, "no list stands for lists of nothing", p, 0, []api.Summary{{Heap: []int{0, 2}, Result: [][]int{{}, nil}}}, e(0, 2, 0), e(0, 1, 2))
}

// Code that no jump reaches has its edges; alike ones are told each time; News are counted in the order of the code.
func TestTheOrderOfTheCode(t *testing.T) {
	f := with(head(0, 1, 2), api.Instr{Op: api.Jump, N: 5}, api.Instr{Op: api.New, N: 1}, api.Instr{Op: api.Set, S: 1}, api.Instr{Op: api.New, R: 1, N: 1}, api.Instr{Op: api.Set, S: 1}, api.Instr{Op: api.New, N: 1}, ret(0), api.Instr{Op: api.Store, S: 1}, ret(0))
	p := program(1, f)
	gives(t, "alike edges, and code that nothing reaches", p, 0, lowest(p), e(2, 4, -1), e(0, 3, 0), e(3, 5, -1), e(0, 3, 0), e(2, 6, -1), e(1, 2, 0), e(0, 3, 0), e(1, 2, 0))
	p = program(1, head(0, 0, 0))
	gives(t, "no edges at all", p, 0, lowest(p))
}

// The edges' ends are what Variable and Cell tell.
func TestEdgesStandAtThePlaces(t *testing.T) {
	f := with(head(0, 3, 5), api.Instr{Op: api.Null}, api.Instr{Op: api.New, R: 4, N: 1}, api.Instr{Op: api.Copy, R: 3, S: 4}, api.Instr{Op: api.New, R: 0, N: 1}, ret(0, 1, 2))
	p := program(0, f)
	got, _ := flow.Edges(p, 0, lowest(p))
	want := list(e(flow.Variable(f, 4), flow.Cell(f, 1), -1), e(flow.Variable(f, 3), flow.Variable(f, 4), 0), e(flow.Variable(f, 0), flow.Cell(f, 3), -1), e(1, flow.Variable(f, 0), 0), e(2, flow.Variable(f, 1), 0), e(3, flow.Variable(f, 2), 0))
	if !slices.Equal(got, want) || flow.Cell(f, 3) != flow.Locations(f)-1 {
		t.Errorf("P7.1, P7.2: the edges %v stand elsewhere than %v", got, want)
	}
}
