package cert

import "fugue/api"

// search: a walk that finds its passes by itself. A function's rank is its place in the order.
type search struct {
	walk
	order   []int
	callers [][]int // by function: the ranks of those that call it
	open    *open   // the ranks of those that a pass may change
}

func newSearch(p api.Program) *search {
	s := &search{newWalk(p), calleesFirst(p), make([][]int, len(p.Funcs)), newOpen(len(p.Funcs))}
	for rank, f := range s.order {
		s.open.put(rank)
		for _, x := range p.Funcs[f].Code {
			if x.Op == api.Call {
				s.calls(rank, x.N)
			}
		}
	}
	return s
}

// calls: all calls of one rank are told one behind the other, so that it stands there already just if it stands there last.
func (s *search) calls(rank, callee int) {
	if l := s.callers[callee]; len(l) == 0 || l[len(l)-1] != rank {
		s.callers[callee] = append(l, rank)
	}
}

// passes: those that change something, until none would. It is always the lowest rank's turn, so that a ring is looked at by those that call it only when nothing in it changes any more.
func (s *search) passes() []int {
	var l []int
	for {
		rank, is := s.open.take()
		if !is {
			return l
		}
		f := s.order[rank]
		if !s.pass(f) {
			continue
		}
		l = append(l, f)
		for _, c := range s.callers[f] {
			s.open.put(c)
		}
	}
}
