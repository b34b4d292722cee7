package solve_test

import (
	"math/rand"
	"reflect"
	"slices"
	"testing"

	"fugue/api"
	"fugue/calls"
	"fugue/solve"
)

const mark = -77 // stands in spare room

// roomy: the same list with spare room behind it, in which more stands.
func roomy[T any](l []T, more T) []T {
	return append(append(make([]T, 0, len(l)+2), l...), more, more)[:len(l)]
}

func fill[T any](l []T, x T) {
	l = l[:cap(l)]
	for i := range l {
		l[i] = x
	}
}

func strange() api.Instr { return api.Instr{Op: mark, R: mark, Args: []int{mark}} }

func strangeFunc() api.Func { return api.Func{Params: mark, Code: []api.Instr{strange()}} }

// roomyProgram: each list of it with spare room.
func roomyProgram(p api.Program) api.Program {
	p.Funcs = roomy(p.Funcs, strangeFunc())
	for i := range p.Funcs {
		f := &p.Funcs[i]
		f.Code = roomy(f.Code, strange())
		for at := range f.Code {
			f.Code[at].Args = roomy(f.Code[at].Args, mark)
			f.Code[at].Rets = roomy(f.Code[at].Rets, mark)
		}
	}
	return p
}

func roomySums(sums []api.Summary) []api.Summary {
	sums = roomy(sums, api.Summary{Heap: []int{mark}})
	for i := range sums {
		sums[i].Heap = roomy(sums[i].Heap, mark)
		sums[i].Result = roomy(sums[i].Result, []int{mark})
		for k := range sums[i].Result {
			sums[i].Result[k] = roomy(sums[i].Result[k], mark)
		}
	}
	return sums
}

// allOf: all that stands in the lists, their spare room too, in new memory.
func allOf(p api.Program, sums []api.Summary) (api.Program, []api.Summary) {
	p.Funcs = slices.Clone(p.Funcs[:cap(p.Funcs)])
	for i := range p.Funcs {
		f := &p.Funcs[i]
		f.Code = slices.Clone(f.Code[:cap(f.Code)])
		for at := range f.Code {
			f.Code[at].Args = slices.Clone(f.Code[at].Args[:cap(f.Code[at].Args)])
			f.Code[at].Rets = slices.Clone(f.Code[at].Rets[:cap(f.Code[at].Rets)])
		}
	}
	return p, allSums(sums)
}

func allSums(sums []api.Summary) []api.Summary {
	sums = slices.Clone(sums[:cap(sums)])
	for i := range sums {
		sums[i].Heap = slices.Clone(sums[i].Heap[:cap(sums[i].Heap)])
		sums[i].Result = slices.Clone(sums[i].Result[:cap(sums[i].Result)])
		for k, l := range sums[i].Result {
			sums[i].Result[k] = slices.Clone(l[:cap(l)])
		}
	}
	return sums
}

func wipe(p api.Program, sums []api.Summary) {
	for _, f := range p.Funcs {
		for _, in := range f.Code {
			fill(in.Args, mark)
			fill(in.Rets, mark)
		}
		fill(f.Code, strange())
	}
	fill(p.Funcs, strangeFunc())
	for _, s := range sums {
		wipeSummary(s)
	}
	fill(sums, api.Summary{})
}

func wipeSummary(s api.Summary) {
	fill(s.Heap, mark)
	for _, l := range s.Result[:cap(s.Result)] {
		fill(l, mark)
	}
	fill(s.Result, nil)
}

func TestTheArgumentsStay(t *testing.T) {
	for seed := range 1000 {
		r := rand.New(rand.NewSource(int64(seed)))
		p := roomyProgram(anyProgram(r, 5, 10))
		sums := roomySums(anySums(r, p))
		g := graph(t, p)
		wasP, wasSums := allOf(p, sums)
		for n, f := range p.Funcs {
			solve.Function(p, n, sums)
			solve.Function(p, n+1, sums)
			solve.Function(p, n, sums[1:])
			solve.Lowest(f)
			solve.Component(p, g, n, sums)
			solve.Component(p, g, n, sums[1:])
		}
		if isP, isSums := allOf(p, sums); !reflect.DeepEqual(isP, wasP) || !reflect.DeepEqual(isSums, wasSums) {
			t.Fatalf("P8.4: seed %d: an argument is another now", seed)
		}
	}
}

// answer: all that Function, Lowest and Component say, of one function and one component.
type answer struct {
	escapes   []bool
	own, low  api.Summary
	component []api.Summary
}

func ask(p api.Program, g *calls.Graph, n, c int, sums []api.Summary) answer {
	var a answer
	a.escapes, a.own, _ = solve.Function(p, n, sums)
	a.low = solve.Lowest(p.Funcs[n])
	a.component, _, _ = solve.Component(p, g, c, sums)
	return a
}

func (a answer) copied() answer {
	l := allSums([]api.Summary{a.own, a.low})
	return answer{slices.Clone(a.escapes), l[0], l[1], allSums(a.component[:len(a.component):len(a.component)])}
}

func (a answer) is(b answer) bool {
	return slices.Equal(a.escapes, b.escapes) && alike(a.own, b.own) && alike(a.low, b.low) && slices.EqualFunc(a.component, b.component, alike)
}

func (a answer) wipe() {
	for i := range a.escapes[:cap(a.escapes)] {
		a.escapes[:cap(a.escapes)][i] = true
	}
	wipeSummary(a.own)
	wipeSummary(a.low)
	for _, s := range a.component[:cap(a.component)] {
		wipeSummary(s)
	}
	fill(a.component, api.Summary{})
}

// What is done to the arguments later changes no answer, and what is done to an answer changes neither them nor another answer.
func TestAnswersAreNew(t *testing.T) {
	for seed := range 1000 {
		r := rand.New(rand.NewSource(int64(seed)))
		p := roomyProgram(anyProgram(r, 5, 10))
		sums := roomySums(anySums(r, p))
		g := graph(t, p)
		n, c := r.Intn(len(p.Funcs)), r.Intn(g.Len())
		wasP, wasSums := allOf(p, sums)
		one, two := ask(p, g, n, c, sums), ask(p, g, n, c, sums)
		want := two.copied()
		one.wipe()
		if isP, isSums := allOf(p, sums); !two.is(want) || !reflect.DeepEqual(isP, wasP) || !reflect.DeepEqual(isSums, wasSums) {
			t.Fatalf("P8.4: seed %d: an answer shares memory with an argument or another answer", seed)
		}
		if !ask(p, g, n, c, sums).is(want) {
			t.Fatalf("P8.4: seed %d: asked again: another answer", seed)
		}
		wipe(p, sums)
		if !two.is(want) {
			t.Fatalf("P8.4: seed %d: an answer changes with the arguments", seed)
		}
	}
}

// No two lists of one answer share memory, their spare room neither.
func TestListsOfOneAnswer(t *testing.T) {
	p := countdown(t, 3, 1, 1)
	for n := range p.Funcs {
		p.Funcs[n].Params, p.Funcs[n].Vars = 2, 3
		p.Funcs[n].Code = []api.Instr{call((n+1)%3, []int{0, 1}, []int{2}), ret(1), ret(2)}
	}
	l, _, _ := solve.Component(p, graph(t, p), 0, lowest(p))
	_, own, _ := solve.Function(p, 0, lowest(p))
	all := append(l, own, solve.Lowest(p.Funcs[0]))
	var lists [][]int
	for _, s := range all {
		lists = append(lists, s.Heap)
		lists = append(lists, s.Result...)
	}
	for i, l := range lists {
		fill(l, i)
	}
	for i, l := range lists {
		if slices.ContainsFunc(l[:cap(l)], func(x int) bool { return x != i }) {
			t.Fatalf("P8.4: the list %d shares memory with another", i)
		}
	}
	for i, s := range all {
		fill(s.Result, []int{i})
	}
	for i, s := range all {
		if slices.ContainsFunc(s.Result[:cap(s.Result)], func(x []int) bool { return x[0] != i }) {
			t.Fatalf("P8.4: the lists of the summary %d are those of another", i)
		}
	}
}

// The same arguments have the same answer each time, at one time too.
func TestAtOneTime(t *testing.T) {
	p := countdown(t, 9, 1, 4)
	sums, g := lowest(p), graph(t, p)
	want := ask(p, g, 4, 0, sums)
	good := make(chan bool)
	for range 8 {
		go func() {
			same := true
			for range 50 {
				same = same && ask(p, g, 4, 0, sums).is(want)
			}
			good <- same
		}()
	}
	for range 8 {
		if !<-good {
			t.Error("R6: asked at one time: another answer")
		}
	}
}
