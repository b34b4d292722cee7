package whole

import (
	"fugue/api"
	"fugue/calls"
	"fugue/solve"
)

// components: the least solution: each component behind all that it calls, so that all is there that is asked for, and none is solved twice.
func components(p api.Program, g *calls.Graph) []api.Summary {
	sums := make([]api.Summary, len(p.Funcs))
	for c := range g.Len() {
		own, _, _ := solve.Component(p, g, c, sums) // nothing of a right program and its own graph is refused
		for i, f := range g.Members(c) {
			sums[f] = own[i]
		}
	}
	return sums
}
