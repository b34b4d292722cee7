package sums_test

import (
	"math/rand"
	"reflect"
	"slices"
	"testing"

	"fugue/api"
	"fugue/sums"
)

const mark = -77 // stands in spare room

// roomy: the same list with spare room behind it, in which more stands.
func roomy[T any](l []T, more T) []T {
	return append(append(make([]T, 0, len(l)+2), l...), more, more)[:len(l)]
}

func fill[T any](l []T, x T) {
	l = l[:cap(l)]
	for i := range l {
		l[i] = x
	}
}

func strange() api.Instr { return api.Instr{Op: mark, R: mark, Args: []int{mark}} }

func strangeFunc() api.Func { return api.Func{Params: mark, Code: []api.Instr{strange()}} }

func roomySummary(s api.Summary) api.Summary {
	s.Heap = roomy(s.Heap, mark)
	s.Result = roomy(s.Result, []int{mark})
	for i, l := range s.Result {
		s.Result[i] = roomy(l, mark)
	}
	return s
}

// given: all that may be handed in, of one program and one result of it, each list with spare room.
type given struct {
	p     api.Program
	r     api.Result
	other []api.Summary // others of the same functions
	few   []byte        // the summaries' bytes
	much  []byte        // the result's
}

func anyGiven(r *rand.Rand) given {
	p := anyProgram(r)
	g := given{p: p, r: anyResult(r, p)}
	for _, f := range p.Funcs {
		g.other = append(g.other, anySummary(r, f))
	}
	g.few, _ = sums.Encode(p.Funcs, g.r.Sums)
	g.much, _ = sums.EncodeResult(p, g.r)
	g.few, g.much = roomy(g.few, 77), roomy(g.much, 77)
	g.p.Funcs = roomy(p.Funcs, strangeFunc())
	for i := range g.p.Funcs {
		f := &g.p.Funcs[i]
		f.Code = roomy(f.Code, strange())
		for at := range f.Code {
			f.Code[at].Args, f.Code[at].Rets = roomy(f.Code[at].Args, mark), roomy(f.Code[at].Rets, mark)
		}
		g.other[i] = roomySummary(g.other[i])
		g.r.Sums[i] = roomySummary(g.r.Sums[i])
		g.r.Vars[i], g.r.Code[i] = roomy(g.r.Vars[i], true), roomy(g.r.Code[i], true)
	}
	lost := roomySummary(sum([]int{mark}, []int{mark}))
	g.other, g.r.Sums = roomy(g.other, lost), roomy(g.r.Sums, lost)
	g.r.Vars, g.r.Code = roomy(g.r.Vars, []bool{true}), roomy(g.r.Code, []bool{true})
	return g
}

// whole: a list with its spare room, in new memory.
func whole[T any](l []T) []T { return slices.Clone(l[:cap(l)]) }

func wholeSums(l []api.Summary) []api.Summary {
	l = whole(l)
	for i, s := range l {
		l[i] = api.Summary{Heap: whole(s.Heap), Result: whole(s.Result)}
		for k, n := range l[i].Result {
			l[i].Result[k] = whole(n)
		}
	}
	return l
}

func wholeBools(l [][]bool) [][]bool {
	l = whole(l)
	for i := range l {
		l[i] = whole(l[i])
	}
	return l
}

func wholeResult(r api.Result) api.Result {
	return api.Result{Sums: wholeSums(r.Sums), Vars: wholeBools(r.Vars), Code: wholeBools(r.Code)}
}

// copied: all that stands in it, in spare room too, in new memory.
func (g given) copied() given {
	p := g.p
	p.Funcs = whole(p.Funcs)
	for i := range p.Funcs {
		f := &p.Funcs[i]
		f.Code = whole(f.Code)
		for at := range f.Code {
			f.Code[at].Args, f.Code[at].Rets = whole(f.Code[at].Args), whole(f.Code[at].Rets)
		}
	}
	return given{p, wholeResult(g.r), wholeSums(g.other), whole(g.few), whole(g.much)}
}

func wipeSums(l []api.Summary) {
	for _, s := range l[:cap(l)] {
		fill(s.Heap, mark)
		for _, n := range s.Result[:cap(s.Result)] {
			fill(n, mark)
		}
		fill(s.Result, nil)
	}
	fill(l, api.Summary{})
}

func wipeResult(r api.Result) {
	wipeSums(r.Sums)
	for _, l := range [][][]bool{r.Vars, r.Code} {
		for _, on := range l[:cap(l)] {
			for i := range on[:cap(on)] {
				on[:cap(on)][i] = !on[:cap(on)][i]
			}
		}
		fill(l, nil)
	}
}

func (g given) wipe() {
	for _, f := range g.p.Funcs {
		fill(f.Code, strange())
	}
	fill(g.p.Funcs, strangeFunc())
	wipeResult(g.r)
	wipeSums(g.other)
	fill(g.few, 78)
	fill(g.much, 78)
}

// answers: all that is told of what is given.
type answers struct {
	meets     []api.Summary
	few, much []byte
	sums      []api.Summary
	result    api.Result
}

func (g given) ask() answers {
	var a answers
	for i := range g.other {
		m, _ := sums.Meet(g.r.Sums[i], g.other[i])
		a.meets = append(a.meets, m)
	}
	a.few, _ = sums.Encode(g.p.Funcs, g.r.Sums)
	a.sums, _ = sums.Decode(g.p.Funcs, g.few)
	a.much, _ = sums.EncodeResult(g.p, g.r)
	a.result, _ = sums.DecodeResult(g.p, g.much)
	return a
}

func (a answers) copied() answers {
	return answers{wholeSums(a.meets), slices.Clone(a.few), slices.Clone(a.much), wholeSums(a.sums)[:len(a.sums)], wholeResult(a.result)}
}

func (a answers) is(b answers) bool {
	n := min(len(a.result.Sums), len(b.result.Sums))
	cut := func(r api.Result) api.Result { return api.Result{Sums: r.Sums[:n], Vars: r.Vars[:n], Code: r.Code[:n]} }
	return slices.EqualFunc(a.meets[:n], b.meets[:n], alike) && slices.Equal(a.few, b.few) && slices.Equal(a.much, b.much) &&
		slices.EqualFunc(a.sums, b.sums, alike) && alikeResults(cut(a.result), cut(b.result))
}

func (a answers) wipe() {
	wipeSums(a.meets)
	wipeSums(a.sums)
	fill(a.few, 79)
	fill(a.much, 79)
	wipeResult(a.result)
}

// askWrong: likewise of what is refused.
func (g given) askWrong() {
	sums.Check(api.Func{Params: 9}, g.other[0])
	sums.Meet(g.other[0], api.Summary{})
	sums.Encode(g.p.Funcs, g.other[1:])
	sums.Decode(g.p.Funcs, append(slices.Clone(g.few), 0))
	sums.Decode(g.p.Funcs, g.much)
	sums.EncodeResult(api.Program{}, g.r)
	sums.EncodeResult(g.p, api.Result{Sums: g.r.Sums, Vars: g.r.Vars, Code: g.r.Vars})
	sums.DecodeResult(g.p, g.much[:len(g.much)-1])
	sums.DecodeResult(g.p, g.few)
}

func TestTheArgumentsStay(t *testing.T) {
	for seed := range 500 {
		g := anyGiven(rand.New(rand.NewSource(int64(seed))))
		was := g.copied()
		for i, f := range g.p.Funcs {
			sums.Check(f, g.other[i])
			sums.Above(g.other[i], g.r.Sums[i])
		}
		g.ask()
		g.askWrong()
		if !reflect.DeepEqual(g.copied(), was) {
			t.Fatalf("P9.8: seed %d: an argument is another now", seed)
		}
	}
}

// What is done to the arguments later changes no answer, and what is done to an answer changes neither them nor another answer.
func TestAnswersAreNew(t *testing.T) {
	for seed := range 500 {
		g := anyGiven(rand.New(rand.NewSource(int64(seed))))
		was := g.copied()
		one, two := g.ask(), g.ask()
		want := two.copied()
		if !two.is(want) || len(want.much) == 0 {
			t.Fatalf("seed %d: no answers", seed)
		}
		one.wipe()
		if !two.is(want) || !reflect.DeepEqual(g.copied(), was) {
			t.Fatalf("P9.8: seed %d: an answer shares memory with an argument or another answer", seed)
		}
		if !g.ask().is(want) {
			t.Fatalf("P9.8: seed %d: asked again: another answer", seed)
		}
		g.wipe()
		if !two.is(want) {
			t.Fatalf("P9.8: seed %d: an answer changes with the arguments", seed)
		}
	}
}

// apartLists: fills each list with a number of its own, and asks whether it is there still.
func apartLists(t *testing.T, what string, lists [][]int) {
	t.Helper()
	for i, l := range lists {
		fill(l, i)
	}
	for i, l := range lists {
		if slices.ContainsFunc(l[:cap(l)], func(x int) bool { return x != i }) {
			t.Errorf("P9.8: %s: the list %d shares memory with another", what, i)
		}
	}
}

func listsOf(l []api.Summary) [][]int {
	var lists [][]int
	for _, s := range l {
		lists = append(lists, s.Heap)
		lists = append(lists, s.Result...)
	}
	return lists
}

// Each list of one answer is memory of its own, though the arguments share theirs.
func TestListsOfOneAnswer(t *testing.T) {
	f := api.Func{Params: 3, Results: 3, Vars: 3, Code: []api.Instr{makes(0), makes(1), ret(0, 1, 2)}}
	shared := []int{1, 2, 3}
	s := sum(shared, shared, shared, shared)
	p := api.Program{Funcs: []api.Func{f, f, f}}
	r := api.Result{Sums: []api.Summary{s, s, s}}
	on := []bool{true, true, false}
	for range p.Funcs {
		r.Vars, r.Code = append(r.Vars, on), append(r.Code, on)
	}
	m, e := sums.Meet(s, s)
	if e != api.OK || !alike(m, s) {
		t.Errorf("P9.3: lists that share memory: %v, error %d", m, e)
	}
	apartLists(t, "Meet", listsOf([]api.Summary{m}))
	b, e := sums.Encode(p.Funcs, r.Sums)
	if e != api.OK || !slices.Equal(b, slices.Repeat([]byte{1, 1, 2, 3, 2, 1, 2, 3, 3, 1, 2, 3}, 3)) {
		t.Errorf("P9.4: lists that share memory: % x, error %d", b, e)
	}
	l, _ := sums.Decode(p.Funcs, b)
	apartLists(t, "Decode", listsOf(l))
	b, e = sums.EncodeResult(p, r)
	if e != api.OK || !slices.Equal(b, plain(p, r)) {
		t.Errorf("P9.6: lists that share memory: % x, error %d", b, e)
	}
	got, _ := sums.DecodeResult(p, b)
	apartLists(t, "DecodeResult", listsOf(got.Sums))
	bools := append(slices.Clone(got.Vars), got.Code...)
	for i := range bools {
		for k, l := range bools {
			fill(l, k == i)
		}
		fill(bools[i], true)
		for k, l := range bools {
			if slices.Contains(l[:cap(l)], k != i) {
				t.Errorf("P9.8: DecodeResult: the bools %d share memory with others", k)
			}
		}
	}
}

// The same arguments have the same answer each time, at one time too.
func TestAtOneTime(t *testing.T) {
	g := anyGiven(rand.New(rand.NewSource(7)))
	want := g.ask()
	good := make(chan bool)
	for range 8 {
		go func() {
			same := true
			for range 50 {
				same = same && g.ask().is(want)
				g.askWrong()
			}
			good <- same
		}()
	}
	for range 8 {
		if !<-good {
			t.Error("R6: asked at one time: another answer")
		}
	}
}
