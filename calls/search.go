package calls

// search goes through the functions, each once, and tells a component as soon as all that it reaches has been gone through.
type search struct {
	called [][]int
	of     []int // by function: its component, -1 as long as it is not known
	count  int   // of components that are known
	met    []int // by function: the how-manieth that was met, from 1 on; 0: it was not
	low    []int // by function: the lowest met of those that it is known to reach and whose component is not known
	next   []int // by function: the place in called from which it is gone on with
	path   []int // the functions that are gone through, each called by the one ahead of it: a list, since calls may be too deep for recursion
	open   []int // those that were met and whose component is not known, in the order in which they were met
	steps  int   // how many were met
}

// components: by function its component, numbered as they are found.
func components(called [][]int) []int {
	n := len(called)
	s := &search{called: called, of: make([]int, n), met: make([]int, n), low: make([]int, n), next: make([]int, n)}
	for f := range s.of {
		s.of[f] = -1
	}
	for f := range called {
		if s.met[f] == 0 {
			s.from(f)
		}
	}
	return s.of
}

// from goes through all that a function reaches and that was not met.
func (s *search) from(first int) {
	s.enter(first)
path:
	for len(s.path) > 0 {
		f := s.path[len(s.path)-1]
		for ; s.next[f] < len(s.called[f]); s.next[f]++ {
			g := s.called[f][s.next[f]]
			if s.met[g] == 0 {
				s.enter(g)
				continue path // next stays, so that f learns of g's low when it is gone on with
			}
			if s.of[g] < 0 {
				s.low[f] = min(s.low[f], s.low[g])
			}
		}
		s.leave()
	}
}

// enter: a function is met.
func (s *search) enter(f int) {
	s.steps++
	s.met[f], s.low[f] = s.steps, s.steps
	s.path = append(s.path, f)
	s.open = append(s.open, f)
}

// leave: the path's last function has been gone through. If it reaches none that was met ahead of it, those that are open from it on are its component.
func (s *search) leave() {
	last := len(s.path) - 1
	f := s.path[last]
	s.path = s.path[:last]
	if s.low[f] == s.met[f] {
		s.tell(f)
	}
}

// tell: the open functions from f on are a component.
func (s *search) tell(f int) {
	for s.of[f] < 0 {
		last := len(s.open) - 1
		s.of[s.open[last]] = s.count
		s.open = s.open[:last]
	}
	s.count++
}
