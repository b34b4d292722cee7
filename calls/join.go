package calls

import (
	"slices"

	"fugue/api"
)

// calledBy: by function those that it calls, in the order of its code, one twice if it is called twice.
func calledBy(p api.Program) [][]int {
	called := make([][]int, len(p.Funcs))
	for f := range p.Funcs {
		for _, i := range p.Funcs[f].Code {
			if i.Op == api.Call {
				called[f] = append(called[f], i.N)
			}
		}
	}
	return called
}

// join: the graph of the components that the functions are in, of which each number from 0 on is that of one.
func join(of []int, called [][]int) *Graph {
	n := slices.Max(of) + 1
	g := &Graph{of: of, members: make([][]int, n), callees: make([][]int, n), callers: make([][]int, n)}
	for f, c := range of {
		g.members[c] = append(g.members[c], f)
	}
	for c, functions := range g.members {
		for _, f := range functions {
			for _, callee := range called[f] {
				g.addCaller(of[callee], c)
			}
		}
	}
	for d, callers := range g.callers {
		for _, c := range callers {
			g.callees[c] = append(g.callees[c], d) // rising, since d is
		}
	}
	return g
}

// addCaller: c calls d. Callers come rising, so one that was told before is the last one.
func (g *Graph) addCaller(d, c int) {
	l := g.callers[d]
	if c == d || len(l) > 0 && l[len(l)-1] == c {
		return
	}
	g.callers[d] = append(l, c)
}
