package whole

import (
	"slices"

	"fugue/api"
	"fugue/solve"
)

// made: what F makes of a function, with all summaries as they are. Of a right program with right summaries solve.Function refuses nothing.
func made(p api.Program, f int, sums []api.Summary) ([]bool, api.Summary) {
	escapes, s, _ := solve.Function(p, f, sums)
	return escapes, s
}

// solution: is F of the summaries the summaries?
func solution(p api.Program, sums []api.Summary) bool {
	for f := range p.Funcs {
		if _, s := made(p, f, sums); !same(s, sums[f]) {
			return false
		}
	}
	return true
}

func same(a, b api.Summary) bool {
	return slices.Equal(a.Heap, b.Heap) && slices.EqualFunc(a.Result, b.Result, slices.Equal)
}

// place: the result with these summaries, which are right.
func place(p api.Program, sums []api.Summary) api.Result {
	var r api.Result
	for n, f := range p.Funcs {
		escapes, _ := made(p, n, sums)
		escapes = escapes[1+f.Results:] // the heap and the results are no sites
		r.Sums = append(r.Sums, copied(sums[n]))
		r.Vars = append(r.Vars, slices.Clone(escapes[:f.Vars]))
		r.Code = append(r.Code, atNews(f.Code, escapes[f.Vars:]))
	}
	return r
}

// atNews: the News' truths, which stand in the order of the code, each at its place there.
func atNews(code []api.Instr, news []bool) []bool {
	l := make([]bool, len(code))
	for at, x := range code {
		if x.Op == api.New {
			l[at], news = news[0], news[1:]
		}
	}
	return l
}

func copied(s api.Summary) api.Summary {
	c := api.Summary{Heap: slices.Clone(s.Heap)}
	for _, l := range s.Result {
		c.Result = append(c.Result, slices.Clone(l))
	}
	return c
}
