package incr

import "fugue/api"

// handedIn: by function of the new program whether it is handed in; false, if functions may not be handed in at these numbers. Those that are not among the so many old ones lie below as many as there are then, none twice: so they are just the next ones.
func handedIn(at []int, old int) ([]bool, bool) {
	many := old
	for _, n := range at {
		if n >= old {
			many++
		}
	}
	handed := make([]bool, many)
	for _, n := range at {
		if n < 0 || n >= many || handed[n] {
			return nil, false
		}
		handed[n] = true
	}
	return handed, true
}

// with: the program of so many functions, those that are handed in at their numbers, all others as they were.
func (s *Session) with(at []int, fs []api.Func, many int) api.Program {
	p := api.Program{Globals: s.program.Globals, Funcs: grown(s.program.Funcs, many)}
	for i, n := range at {
		p.Funcs[n] = copiedFunc(fs[i])
	}
	return p
}
