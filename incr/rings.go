package incr

import (
	"slices"

	"fugue/calls"
)

// rings: components by the lowest of their functions, which no two have in common; of each all its functions, rising.
type rings map[int][]int

func ringsOf(g *calls.Graph) rings {
	r := make(rings, g.Len())
	for c := range g.Len() {
		members := g.Members(c)
		r[members[0]] = members
	}
	return r
}

// has: are these functions, rising, a component?
func (r rings) has(members []int) bool { return slices.Equal(r[members[0]], members) }
