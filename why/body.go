package why

import (
	"fugue/api"
	"fugue/flow"
)

// edge: by the instruction at a place src flows, with so many derefs, into the location that has it.
type edge struct{ at, src, derefs int }

// link: by the call at a place what flows to that result of its callee flows on into the location that has it.
type link struct{ at, result int }

// body: by location of a function what flows into it. (What flows into the heap by calls is found from the callees' side.)
type body struct {
	edges [][]edge
	links [][]link
}

func newBody(p api.Program, n int, lowest []api.Summary) body {
	f, code := p.Funcs[n], givenBy(p, n, lowest)
	locations := flow.Locations(f)
	b := body{make([][]edge, locations), make([][]link, locations)}
	for at, x := range f.Code {
		for _, e := range code.at(at) {
			b.edges[e.Dst] = append(b.edges[e.Dst], edge{at, e.Src, e.Derefs})
		}
		for j, v := range x.Rets { // a call's: no other instruction has any
			l := flow.Variable(f, v)
			b.links[l] = append(b.links[l], link{at, firstResult + j})
		}
	}
	return b
}
