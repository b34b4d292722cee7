package cache

import (
	"fugue/api"
	"fugue/calls"
	"fugue/solve"
)

// solver: the components of a right program, one behind the other, with what a cache knows of them.
type solver struct {
	cache   *Cache
	program api.Program
	graph   *calls.Graph
	sums    []api.Summary // by function; of the components behind which it is
	passes  int
}

// solve: callees have lower numbers, so what a component calls is there when its turn comes.
func (s *solver) solve() {
	for n := range s.graph.Len() {
		members := s.graph.Members(n)
		for i, sum := range s.component(n, members) {
			s.sums[members[i]] = sum
		}
	}
}

// component: the summaries of its functions: from the cache, if they are believed, else found anew and kept there.
func (s *solver) component(n int, members []int) []api.Summary {
	x := closedOf(s.program, members, s.sums)
	if own, is := s.cache.believed(x); is {
		return own
	}
	own, passes, _ := solve.Component(s.program, s.graph, n, s.sums) // nothing of a right program and its own graph is refused
	s.passes += passes
	s.cache.learn(x, own)
	return own
}
