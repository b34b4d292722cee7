package whole

import (
	"fugue/api"
	"fugue/solve"
)

// solver: the summaries as they are, and the functions of which F may make others.
type solver struct {
	p       api.Program
	sums    []api.Summary
	callers [][]int
	open    open
}

func newSolver(p api.Program) *solver {
	return &solver{p, lowest(p), callers(p), newOpen(len(p.Funcs))}
}

func lowest(p api.Program) []api.Summary {
	l := make([]api.Summary, len(p.Funcs))
	for n, f := range p.Funcs {
		l[n] = solve.Lowest(f)
	}
	return l
}

// solve: until none is open.
func (s *solver) solve(picks []int) {
	for turn := 0; s.open.many() > 0; turn++ {
		s.pass(s.open.take(pickOf(picks, turn)))
	}
}

// pickOf: behind the last pick it is the lowest one's turn, as if those that are missing were 0.
func pickOf(picks []int, turn int) int {
	if turn < len(picks) {
		return picks[turn]
	}
	return 0
}

// pass: a function anew. Those that call it are open only if its summary is another one: nobody else sees it, and nothing else of it is seen.
func (s *solver) pass(f int) {
	_, now := made(s.p, f, s.sums)
	if same(now, s.sums[f]) {
		return
	}
	s.sums[f] = now
	for _, c := range s.callers[f] {
		s.open.put(c)
	}
}

// callers: by function those that call it, none twice: all that one function calls is gone through ahead of the next one's, so that it has been told already just if it was told last.
func callers(p api.Program) [][]int {
	l := make([][]int, len(p.Funcs))
	for f, body := range p.Funcs {
	instructions:
		for _, x := range body.Code {
			if x.Op != api.Call {
				continue instructions
			}
			told := l[x.N]
			if len(told) > 0 && told[len(told)-1] == f {
				continue instructions
			}
			l[x.N] = append(told, f)
		}
	}
	return l
}
