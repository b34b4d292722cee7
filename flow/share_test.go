package flow_test

import (
	"math/rand"
	"reflect"
	"slices"
	"testing"

	"fugue/api"
	"fugue/flow"
)

const mark = -77 // stands in spare room

// roomy: the same list with spare room behind it, in which more stands.
func roomy[T any](l []T, more T) []T {
	return append(append(make([]T, 0, len(l)+2), l...), more, more)[:len(l)]
}

func fill[T any](l []T, x T) {
	l = l[:cap(l)]
	for i := range l {
		l[i] = x
	}
}

func strange() api.Instr { return api.Instr{Op: mark, R: mark, Args: []int{mark}} }

func strangeFunc() api.Func { return api.Func{Params: mark, Code: []api.Instr{strange()}} }

// roomyProgram: each list of it with spare room.
func roomyProgram(p api.Program) api.Program {
	p.Funcs = roomy(p.Funcs, strangeFunc())
	for i := range p.Funcs {
		f := &p.Funcs[i]
		f.Code = roomy(f.Code, strange())
		for at := range f.Code {
			f.Code[at].Args = roomy(f.Code[at].Args, mark)
			f.Code[at].Rets = roomy(f.Code[at].Rets, mark)
		}
	}
	return p
}

func roomySums(sums []api.Summary) []api.Summary {
	sums = roomy(sums, api.Summary{Heap: []int{mark}})
	for i := range sums {
		sums[i].Heap = roomy(sums[i].Heap, mark)
		sums[i].Result = roomy(sums[i].Result, []int{mark})
		for k := range sums[i].Result {
			sums[i].Result[k] = roomy(sums[i].Result[k], mark)
		}
	}
	return sums
}

// whole: all that stands in the lists, their spare room too, in new memory.
func whole(p api.Program, sums []api.Summary) (api.Program, []api.Summary) {
	p.Funcs = slices.Clone(p.Funcs[:cap(p.Funcs)])
	for i := range p.Funcs {
		f := &p.Funcs[i]
		f.Code = slices.Clone(f.Code[:cap(f.Code)])
		for at := range f.Code {
			f.Code[at].Args = slices.Clone(f.Code[at].Args[:cap(f.Code[at].Args)])
			f.Code[at].Rets = slices.Clone(f.Code[at].Rets[:cap(f.Code[at].Rets)])
		}
	}
	sums = slices.Clone(sums[:cap(sums)])
	for i := range sums {
		sums[i].Heap = slices.Clone(sums[i].Heap[:cap(sums[i].Heap)])
		sums[i].Result = slices.Clone(sums[i].Result[:cap(sums[i].Result)])
		for k, l := range sums[i].Result {
			sums[i].Result[k] = slices.Clone(l[:cap(l)])
		}
	}
	return p, sums
}

// wipe: all lists of the arguments are others then.
func wipe(p api.Program, sums []api.Summary) {
	for _, f := range p.Funcs {
		for _, in := range f.Code {
			fill(in.Args, mark)
			fill(in.Rets, mark)
		}
		fill(f.Code, strange())
	}
	fill(p.Funcs, strangeFunc())
	for _, s := range sums {
		fill(s.Heap, mark)
		for _, l := range s.Result {
			fill(l, mark)
		}
		fill(s.Result, nil)
	}
	fill(sums, api.Summary{})
}

func TestTheArgumentsStay(t *testing.T) {
	for seed := range 1000 {
		r := rand.New(rand.NewSource(int64(seed)))
		p := roomyProgram(anyProgram(r))
		sums := roomySums(anySums(r, p))
		wasP, wasSums := whole(p, sums)
		for n, f := range p.Funcs {
			flow.Edges(p, n, sums)
			flow.Edges(p, n+1, sums)
			flow.Edges(p, n, sums[1:])
			flow.Locations(f)
			for at := range f.Code {
				flow.Variable(f, at)
				flow.Cell(f, at)
			}
		}
		if isP, isSums := whole(p, sums); !reflect.DeepEqual(isP, wasP) || !reflect.DeepEqual(isSums, wasSums) {
			t.Fatalf("P7.3: seed %d: an argument is another now", seed)
		}
	}
}

// What is done to the arguments later changes no answer, and what is done to an answer changes neither them nor another answer.
func TestAnswersAreNew(t *testing.T) {
	for seed := range 1000 {
		r := rand.New(rand.NewSource(int64(seed)))
		p := roomyProgram(anyProgram(r))
		sums := roomySums(anySums(r, p))
		n := r.Intn(len(p.Funcs))
		want, _ := plain(p, n, sums)
		wasP, wasSums := whole(p, sums)
		one, _ := flow.Edges(p, n, sums)
		two, _ := flow.Edges(p, n, sums)
		fill(one, e(mark, mark, mark))
		if isP, isSums := whole(p, sums); !slices.Equal(two, want) || !reflect.DeepEqual(isP, wasP) || !reflect.DeepEqual(isSums, wasSums) {
			t.Fatalf("P7.3: seed %d: an answer shares memory with an argument or another answer", seed)
		}
		if again, err := flow.Edges(p, n, sums); err != api.OK || !slices.Equal(again, want) {
			t.Fatalf("P7.3: seed %d: asked again: %v, error %d, want %v", seed, again, err, want)
		}
		wipe(p, sums)
		if !slices.Equal(two, want) || slices.ContainsFunc(one[:cap(one)], func(x api.Edge) bool { return x != e(mark, mark, mark) }) {
			t.Fatalf("P7.3: seed %d: an answer changes with the arguments", seed)
		}
	}
}

// The same function has the same edges each time, at one time too.
func TestAtOneTime(t *testing.T) {
	r := rand.New(rand.NewSource(3))
	p := anyProgram(r)
	sums := anySums(r, p)
	want, _ := plain(p, 0, sums)
	good := make(chan bool)
	for range 8 {
		go func() {
			same := true
			for range 200 {
				got, err := flow.Edges(p, 0, sums)
				same = same && err == api.OK && slices.Equal(got, want)
			}
			good <- same
		}()
	}
	for range 8 {
		if !<-good {
			t.Error("R6: a function asked at one time has other edges")
		}
	}
}
