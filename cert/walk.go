package cert

import (
	"slices"

	"fugue/api"
	"fugue/solve"
)

// walk: the summaries to which passes have led up to now, of a right program.
type walk struct {
	p    api.Program
	sums []api.Summary
}

func newWalk(p api.Program) walk {
	w := walk{p, make([]api.Summary, len(p.Funcs))}
	for n, f := range p.Funcs {
		w.sums[n] = solve.Lowest(f)
	}
	return w
}

// pass: a function's summary becomes what F makes of all of them as they are; is it another one then?
func (w walk) pass(f int) bool {
	_, now, _ := solve.Function(w.p, f, w.sums) // nothing of a right program with right summaries is refused
	before := w.sums[f]
	w.sums[f] = now
	return !sameSum(now, before)
}

func sameSum(a, b api.Summary) bool {
	return slices.Equal(a.Heap, b.Heap) && slices.EqualFunc(a.Result, b.Result, slices.Equal)
}

func sameResult(a, b api.Result) bool {
	return slices.EqualFunc(a.Sums, b.Sums, sameSum) && slices.EqualFunc(a.Vars, b.Vars, slices.Equal) && slices.EqualFunc(a.Code, b.Code, slices.Equal)
}
