package why

import (
	"fugue/api"
	"fugue/flow"
	"fugue/solve"
	"fugue/whole"
)

// lowest: the lowest summaries of a program's functions: with them no call has an edge.
func lowest(p api.Program) []api.Summary {
	l := make([]api.Summary, len(p.Funcs))
	for n, f := range p.Funcs {
		l[n] = solve.Lowest(f)
	}
	return l
}

// check: code.Check's error. It is asked of whole, with summaries that are right for every right program, so that whole has none of its own to tell.
func check(p api.Program) api.Errno {
	_, e := whole.Is(p, lowest(p))
	return e
}

// given: the edges that a function's code gives, calls aside.
type given struct {
	edges []api.Edge
	begin []int // by place: where its edges begin; one more for the end
}

func givenBy(p api.Program, f int, lowest []api.Summary) given {
	edges, _ := flow.Edges(p, f, lowest) // nothing of a right program with these summaries is refused
	g := given{edges: edges}
	n := 0
	for _, x := range p.Funcs[f].Code {
		g.begin = append(g.begin, n)
		n += gives(x)
	}
	g.begin = append(g.begin, n)
	return g
}

// gives: how many edges an instruction has, a call with the lowest summary.
func gives(x api.Instr) int {
	switch x.Op {
	case api.Copy, api.Addr, api.New, api.Load, api.Store, api.Set:
		return 1
	case api.Return:
		return len(x.Args)
	}
	return 0
}

// at: the edges of the instruction at a place of the code.
func (g given) at(place int) []api.Edge { return g.edges[g.begin[place]:g.begin[place+1]] }
