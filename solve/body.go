package solve

import (
	"fugue/api"
	"fugue/flow"
	"fugue/weigh"
)

// The locations that are roots from the beginning: the heap, then the results.
const (
	heap        = 0
	firstResult = 1
)

const address = -1

// body: a function with the edges that its callees' summaries give it.
type body struct {
	f     api.Func
	edges []api.Edge
}

// flows: by location the fewest derefs with which it flows to one of the roots. (Edges and roots are the function's own, so nothing is wrong with them.)
func (b body) flows(roots ...int) []int {
	least, _ := weigh.From(flow.Locations(b.f), b.edges, roots...)
	return least
}

// escaping: by location, whether it escapes. To ask once is enough: one whose address flows to a root weighs -1, and an edge is added onto -1 as onto the 0 of a root; so it counts as a root already. (Nothing flows from the heap or a result: they weigh 0.)
func (b body) escaping() []bool {
	roots := []int{heap}
	for j := range b.f.Results {
		roots = append(roots, firstResult+j)
	}
	least := b.flows(roots...)
	escapes := make([]bool, len(least))
	for l, d := range least {
		escapes[l] = d == address
	}
	return escapes
}

func (b body) summary(escapes []bool) api.Summary {
	roots := []int{heap}
	for l, out := range escapes {
		if out {
			roots = append(roots, l)
		}
	}
	s := Lowest(b.f)
	least := b.flows(roots...)
	for i := range s.Heap {
		s.Heap[i] = b.told(least, i)
	}
	for j := range b.f.Results {
		least = b.flows(firstResult + j)
		for i := range s.Result {
			s.Result[i][j] = b.told(least, i)
		}
	}
	return s
}

// told: what a flow says of a parameter, as it stands in a summary: that an address flows is told of the location, not there.
func (b body) told(least []int, param int) int {
	return max(least[flow.Variable(b.f, param)], 0)
}
