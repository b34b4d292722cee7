package why

import (
	"fugue/api"
	"fugue/flow"
)

// judge: goes through steps in their order, and knows what those so far have told.
type judge struct {
	p      api.Program
	lowest []api.Summary
	codes  map[int]given // by function, as they are asked for
	known  map[fact]struct{}
}

func newJudge(p api.Program) judge {
	return judge{p, lowest(p), map[int]given{}, map[fact]struct{}{}}
}

// passes: does each step stand by those ahead of it?
func (j judge) passes(w []api.Step) bool {
	for _, s := range w {
		if !below(s.Func, len(j.p.Funcs)) || !j.stands(s, j.p.Funcs[s.Func]) {
			return false
		}
		j.known[factOf(s)] = struct{}{}
	}
	return true
}

// stands: does a step of f?
func (j judge) stands(s api.Step, f api.Func) bool {
	switch s.Rule {
	case byRoot:
		return s.At == 0 && s.Derefs == 0 && s.Src == s.Dst && below(s.Dst, firstResult+f.Results)
	case byEscape:
		return s.At == 0 && s.Derefs == 0 && s.Dst == heap && j.escapes(s, f)
	}
	return below(s.At, len(f.Code)) && j.standsBy(f.Code[s.At], s, f)
}

// standsBy: does it by that instruction?
func (j judge) standsBy(x api.Instr, s api.Step, f api.Func) bool {
	switch {
	case s.Rule == byCode:
		return j.alongCode(s)
	case x.Op != api.Call:
		return false
	case s.Rule == byCallToHeap:
		return j.throughCall(x, s, f, heap, heap)
	case s.Rule == byCallToResult:
		return j.throughResults(x, s, f)
	}
	return false
}

// escapes: is the address of the step's Src known to flow out? (Then Src is a variable or a New: no edge leads from the heap or a result.)
func (j judge) escapes(s api.Step, f api.Func) bool {
	for d := range firstResult + f.Results {
		if j.knows(s.Func, d, s.Src, address) {
			return true
		}
	}
	return false
}

func (j judge) alongCode(s api.Step) bool {
	g, is := j.codes[s.Func]
	if !is {
		g = givenBy(j.p, s.Func, j.lowest)
		j.codes[s.Func] = g
	}
	for _, e := range g.at(s.At) {
		if e.Src == s.Src && j.follows(s, e.Dst, e.Derefs) {
			return true
		}
	}
	return false
}

func (j judge) throughResults(call api.Instr, s api.Step, f api.Func) bool {
	for r, v := range call.Rets {
		if j.throughCall(call, s, f, firstResult+r, flow.Variable(f, v)) {
			return true
		}
	}
	return false
}

// throughCall: does the step follow from what flows to dst in the callee, if the call carries that on to mid?
func (j judge) throughCall(call api.Instr, s api.Step, f api.Func, dst, mid int) bool {
	for i, v := range call.Args {
		if flow.Variable(f, v) != s.Src {
			continue
		}
		param := flow.Variable(j.p.Funcs[call.N], i)
		for x := address; x <= api.MaxDeref; x++ {
			if j.knows(call.N, dst, param, x) && j.follows(s, mid, max(x, 0)) {
				return true
			}
		}
	}
	return false
}

// follows: does the step follow from what is known of mid, if its Src flows to that with so many derefs?
func (j judge) follows(s api.Step, mid, derefs int) bool {
	for u := address; u <= api.MaxDeref; u++ {
		if plus(u, derefs) == s.Derefs && j.knows(s.Func, s.Dst, mid, u) {
			return true
		}
	}
	return false
}

func (j judge) knows(f, dst, src, derefs int) bool {
	_, is := j.known[fact{ends{f, dst, src}, derefs}]
	return is
}
