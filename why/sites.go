package why

import (
	"fugue/api"
	"fugue/flow"
)

// location: a site's location in its function; below 0, if it is no site of the program.
func location(p api.Program, s api.Site) int {
	switch {
	case !below(s.Func, len(p.Funcs)):
		return -1
	case isVariable(s):
		return flow.Variable(p.Funcs[s.Func], s.Var)
	case s.Var != 0:
		return -1
	}
	return flow.Cell(p.Funcs[s.Func], s.At)
}

func isVariable(s api.Site) bool { return s.At == -1 }

// onHeap: where a site of the program lies by its result.
func onHeap(r api.Result, s api.Site) bool {
	if isVariable(s) {
		return r.Vars[s.Func][s.Var]
	}
	return r.Code[s.Func][s.At]
}
