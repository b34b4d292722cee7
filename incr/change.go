package incr

import (
	"slices"

	"fugue/api"
	"fugue/calls"
	"fugue/solve"
)

// change: from a session as it was to what it is with another program, which is right. The two share what is kept: nothing of a session is changed in its place.
type change struct {
	was, now *Session
	graph    *calls.Graph // of the new program
	handed   []bool       // by function: was it handed in?
	another  []bool       // by component: was it solved anew, with another summary than before for one of its functions?
}

func newChange(was *Session, p api.Program, g *calls.Graph, handed []bool) *change {
	many := len(p.Funcs)
	r := api.Result{Sums: grown(was.result.Sums, many), Vars: grown(was.result.Vars, many), Code: grown(was.result.Code, many)}
	return &change{was, &Session{p, r, ringsOf(g)}, g, handed, make([]bool, g.Len())}
}

// solve: the components that are solved anew, by their functions. Callees have lower numbers, so what a component calls is as it must be when its turn comes.
func (c *change) solve() [][]int {
	var anew [][]int
	for n := range c.graph.Len() {
		members := c.graph.Members(n)
		if c.due(n, members) {
			c.component(n, members)
			anew = append(anew, members)
		}
	}
	return anew
}

// due: is a component to be solved anew?
func (c *change) due(n int, members []int) bool {
	return slices.ContainsFunc(members, func(f int) bool { return c.handed[f] }) ||
		!c.was.rings.has(members) ||
		slices.ContainsFunc(c.graph.Callees(n), func(d int) bool { return c.another[d] })
}

func (c *change) component(n int, members []int) {
	p, r := c.now.program, c.now.result
	own, _, _ := solve.Component(p, c.graph, n, r.Sums) // nothing of a right program and its own graph is refused
	for i, f := range members {
		r.Sums[f] = own[i]
		c.another[n] = c.another[n] || !c.was.has(f, own[i])
	}
	for _, f := range members {
		escapes, _, _ := solve.Function(p, f, r.Sums)
		r.Vars[f], r.Code[f] = placed(p.Funcs[f], escapes)
	}
}

// has: is this the summary of a function that is there?
func (s *Session) has(f int, sum api.Summary) bool {
	return f < len(s.result.Sums) && laid(s.result.Sums[f]) == laid(sum)
}

// placed: of what escapes, by location, the variables, and the code's places, at which the News stand in their order.
func placed(f api.Func, escapes []bool) ([]bool, []bool) {
	sites := escapes[1+f.Results:] // the heap and the results are none
	vars, news := slices.Clone(sites[:f.Vars]), sites[f.Vars:]
	code := make([]bool, len(f.Code))
	for at, x := range f.Code {
		if x.Op == api.New {
			code[at], news = news[0], news[1:]
		}
	}
	return vars, code
}
