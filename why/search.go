package why

import (
	"fugue/api"
	"fugue/flow"
)

const nothing = -1

// proof: a step, and the places of the proofs that it leans on, all of them ahead of it.
type proof struct {
	step  api.Step
	leans [2]int // nothing, where there are fewer
}

// place: of a call in a function's code.
type place struct{ f, at int }

// search: facts of the functions that one reaches, each told behind what it leans on, so that nothing leans on itself. Of flows with the same ends each has fewer derefs than those ahead of it: from fewer no more follow, so the others are of no use.
type search struct {
	p       api.Program
	bodies  []body    // by function, of those that are reached
	callers [][]place // by function, in those that are reached
	proofs  []proof
	known   map[ends]int // the proof with the fewest derefs
}

// newSearch knows the roots of all functions that the first one reaches.
func newSearch(p api.Program, first int) *search {
	many := len(p.Funcs)
	s := &search{p: p, bodies: make([]body, many), callers: make([][]place, many), known: map[ends]int{}}
	low := lowest(p)
	for _, n := range reached(p, first) {
		s.bodies[n] = newBody(p, n, low)
		for at, x := range p.Funcs[n].Code {
			if x.Op == api.Call {
				s.callers[x.N] = append(s.callers[x.N], place{n, at})
			}
		}
		for d := range firstResult + p.Funcs[n].Results {
			s.tell(api.Step{Func: n, Dst: d, Src: d, Rule: byRoot})
		}
	}
	return s
}

// reached: the functions that one reaches by calls, itself first.
func reached(p api.Program, first int) []int {
	seen := make([]bool, len(p.Funcs))
	seen[first] = true
	l := []int{first}
	for i := 0; i < len(l); i++ {
		for _, x := range p.Funcs[l[i]].Code {
			if x.Op == api.Call && !seen[x.N] {
				seen[x.N] = true
				l = append(l, x.N)
			}
		}
	}
	return l
}

// witness: of a location of the function f; none, if its address does not flow out.
func (s *search) witness(f, location int) []api.Step {
	for n := 0; n < len(s.proofs); n++ {
		if tells(s.proofs[n].step, f, location) {
			return s.needed(n)
		}
		s.follow(n)
	}
	return nil
}

// needed: the step of a proof, behind all that it leans on, and nothing else.
func (s *search) needed(last int) []api.Step {
	need := make([]bool, last+1)
	need[last] = true
	many := 0
	for n := last; n >= 0; n-- {
		if !need[n] {
			continue
		}
		many++
		for _, l := range s.proofs[n].leans {
			if l != nothing {
				need[l] = true
			}
		}
	}
	w := make([]api.Step, 0, many)
	for n, is := range need {
		if is {
			w = append(w, s.proofs[n].step)
		}
	}
	return w
}

// tell: the step is known from now on, unless as few derefs are already.
func (s *search) tell(x api.Step, leans ...int) {
	e := endsOf(x)
	if n, is := s.known[e]; is && s.proofs[n].step.Derefs <= x.Derefs {
		return
	}
	next := proof{x, [2]int{nothing, nothing}}
	copy(next.leans[:], leans)
	s.known[e] = len(s.proofs)
	s.proofs = append(s.proofs, next)
}

// follow: what a proof leads to, alone or with those that are known.
func (s *search) follow(n int) {
	x := s.proofs[n].step
	if s.known[endsOf(x)] != n { // the one with fewer derefs is followed in its turn
		return
	}
	for _, e := range s.bodies[x.Func].edges[x.Src] {
		s.tell(api.Step{Func: x.Func, Dst: x.Dst, Src: e.src, Derefs: plus(x.Derefs, e.derefs), Rule: byCode, At: e.at}, n)
	}
	if x.Derefs == address {
		s.tell(api.Step{Func: x.Func, Dst: heap, Src: x.Src, Rule: byEscape}, n)
	}
	s.intoCalls(n, x)
	s.outOfCalls(n, x)
}

// intoCalls: what the calls that lay a result into the step's Src make of it, as far as their callees' parameters are known. (The heap is known ahead of all parameters: what calls make of it is told out of them.)
func (s *search) intoCalls(n int, x api.Step) {
	for _, l := range s.bodies[x.Func].links[x.Src] {
		c := place{x.Func, l.at}
		call := s.instr(c)
		for i := range call.Args {
			param := flow.Variable(s.p.Funcs[call.N], i)
			if inner, is := s.known[ends{call.N, l.result, param}]; is {
				s.tellCall(c, i, inner, n)
			}
		}
	}
}

// outOfCalls: what the calls of the step's function make of it, if its Src is a parameter, as far as it is known where they carry it on to.
func (s *search) outOfCalls(n int, x api.Step) {
	f := s.p.Funcs[x.Func]
	i := x.Src - firstResult - f.Results
	if !below(i, f.Params) {
		return
	}
	for _, c := range s.callers[x.Func] {
		caller, mid := s.p.Funcs[c.f], heap
		if x.Dst != heap {
			mid = flow.Variable(caller, s.instr(c).Rets[x.Dst-firstResult])
		}
		for d := range firstResult + caller.Results {
			if outer, is := s.known[ends{c.f, d, mid}]; is {
				s.tellCall(c, i, n, outer)
			}
		}
	}
}

// tellCall: of a call, what follows for its argument i from the proofs of where that flows in the callee, and of where this flows on in the caller.
func (s *search) tellCall(c place, i, inner, outer int) {
	in, out := s.proofs[inner].step, s.proofs[outer].step
	rule := byCallToResult
	if in.Dst == heap {
		rule = byCallToHeap
	}
	src := flow.Variable(s.p.Funcs[c.f], s.instr(c).Args[i])
	s.tell(api.Step{Func: c.f, Dst: out.Dst, Src: src, Derefs: plus(out.Derefs, max(in.Derefs, 0)), Rule: rule, At: c.at}, inner, outer)
}

func (s *search) instr(c place) api.Instr { return s.p.Funcs[c.f].Code[c.at] }
