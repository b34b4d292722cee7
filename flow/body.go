package flow

import (
	"iter"

	"fugue/api"
)

// How an operation gives its edges.
const (
	_      = iota // none
	one           // an edge between the row's ends
	each          // to each result, from what stands in its place in Args
	callee        // as the callee's summary says
)

// Ends of an edge, as seen from the instruction.
const (
	theHeap = iota
	variableR
	variableS
	itself // the New
)

// row: what an operation gives; of those that are not named in the table: nothing.
type row struct{ how, dst, src, derefs int }

var rows = [api.Same + 1]row{
	api.Copy:   {one, variableR, variableS, 0},
	api.Addr:   {one, variableR, variableS, -1},
	api.New:    {one, variableR, itself, -1},
	api.Load:   {one, variableR, variableS, 1},
	api.Store:  {one, theHeap, variableS, 0},
	api.Set:    {one, theHeap, variableS, 0},
	api.Return: {how: each},
	api.Call:   {how: callee},
}

// body: a function that is right, with the summaries of those that it calls.
type body struct {
	f    api.Func
	sums []api.Summary
}

// edges: all of them, in the order of the code.
func (b body) edges(yield func(api.Edge) bool) {
	cell := firstCell(b.f)
	for _, in := range b.f.Code {
		for e := range b.given(in, cell) {
			if !yield(e) {
				return
			}
		}
		if in.Op == api.New {
			cell++
		}
	}
}

// given: an instruction's edges; cell is its own location, should it be a New.
func (b body) given(in api.Instr, cell int) iter.Seq[api.Edge] {
	switch r := rows[in.Op]; r.how {
	case one:
		return only(api.Edge{Dst: b.end(r.dst, in, cell), Src: b.end(r.src, in, cell), Derefs: r.derefs})
	case each:
		return b.returned(in.Args)
	case callee:
		return b.called(in, b.sums[in.N])
	}
	return func(func(api.Edge) bool) {}
}

func only(e api.Edge) iter.Seq[api.Edge] {
	return func(yield func(api.Edge) bool) { yield(e) }
}

func (b body) end(which int, in api.Instr, cell int) int {
	switch which {
	case variableR:
		return Variable(b.f, in.R)
	case variableS:
		return Variable(b.f, in.S)
	case itself:
		return cell
	}
	return heap
}

func (b body) returned(args []int) iter.Seq[api.Edge] {
	return func(yield func(api.Edge) bool) {
		for j, v := range args {
			if !yield(api.Edge{Dst: firstResult + j, Src: Variable(b.f, v)}) {
				return
			}
		}
	}
}

// called: argument by argument, the heap ahead of the results.
func (b body) called(in api.Instr, s api.Summary) iter.Seq[api.Edge] {
	return func(yield func(api.Edge) bool) {
		for i, v := range in.Args {
			src := Variable(b.f, v)
			if d := s.Heap[i]; d != api.None && !yield(api.Edge{Dst: heap, Src: src, Derefs: d}) {
				return
			}
			for j, d := range s.Result[i] {
				if d != api.None && !yield(api.Edge{Dst: Variable(b.f, in.Rets[j]), Src: src, Derefs: d}) {
					return
				}
			}
		}
	}
}
