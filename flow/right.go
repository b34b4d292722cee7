package flow

import (
	"slices"

	"fugue/api"
	"fugue/code"
)

// right: is the function right in its program?
func right(p api.Program, f int) bool { return code.Check(alone(p, f)) == api.OK }

// alone: a program of the function and, for each of its calls, of the head that it calls: it is right just if the function is right in its own. (Of a function with at most MaxCode instructions it has at most as many heads, each with at most MaxVars variables: so it stays below MaxFuncs and MaxLocs, which must not count.)
func alone(p api.Program, f int) api.Program {
	own := p.Funcs[f]
	own.Code = slices.Clone(own.Code)
	funcs := []api.Func{own}
	still := []api.Instr{{Op: api.Jump}} // code that no head makes wrong
	for at, in := range own.Code {
		if in.Op != api.Call {
			continue
		}
		if in.N < 0 || in.N >= len(p.Funcs) {
			own.Code[at].N = -1 // it may not become the number of one of the few
			continue
		}
		own.Code[at].N = len(funcs)
		head := p.Funcs[in.N]
		head.Code = still
		funcs = append(funcs, head)
	}
	return api.Program{Globals: p.Globals, Funcs: funcs}
}

// told: are the summaries of all that the function calls right for them?
func told(p api.Program, f int, sums []api.Summary) bool {
	for _, in := range p.Funcs[f].Code {
		if in.Op == api.Call && !fits(sums[in.N], p.Funcs[in.N]) {
			return false
		}
	}
	return true
}

// fits: is the summary right for the function?
func fits(s api.Summary, f api.Func) bool {
	if len(s.Result) != f.Params || !derefs(s.Heap, f.Params) {
		return false
	}
	for _, l := range s.Result {
		if !derefs(l, f.Results) {
			return false
		}
	}
	return true
}

// derefs: are these so many numbers that may stand in a summary?
func derefs(l []int, many int) bool {
	if len(l) != many {
		return false
	}
	for _, d := range l {
		if d != api.None && (d < 0 || d > api.MaxDeref) {
			return false
		}
	}
	return true
}
