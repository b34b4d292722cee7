package weigh

import "fugue/api"

// right: may there be such a graph, and such roots of it?
func right(locations int, edges []api.Edge, roots []int) bool {
	if locations < 0 || locations > api.MaxLocs {
		return false
	}
	for _, e := range edges {
		if !below(e.Dst, locations) || !below(e.Src, locations) || !flows(e.Derefs) {
			return false
		}
	}
	for _, r := range roots {
		if !below(r, locations) {
			return false
		}
	}
	return true
}

func below(location, locations int) bool { return location >= 0 && location < locations }

// incoming: edges in one list, those with the same Dst side by side, so that a location's are at hand however many others there are.
type incoming struct {
	edges []api.Edge
	first []int // by location: where its edges begin; one more for the end
}

func byDst(locations int, edges []api.Edge) incoming {
	in := incoming{edges: make([]api.Edge, len(edges)), first: make([]int, locations+1)}
	for _, e := range edges {
		in.first[e.Dst]++
	}
	end := 0
	for l := range in.first {
		end += in.first[l]
		in.first[l] = end
	}
	for _, e := range edges {
		in.first[e.Dst]-- // from the end of the location's edges to their beginning
		in.edges[in.first[e.Dst]] = e
	}
	return in
}

// of: the edges that flow into a location.
func (in incoming) of(location int) []api.Edge {
	return in.edges[in.first[location]:in.first[location+1]]
}
