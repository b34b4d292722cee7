package plan

import (
	"fugue/api"
	"fugue/calls"
	"fugue/code"
)

// wish: is the move wanted, given its callee and the sizes behind it?
type wish func(m api.Move, callee api.Func, behind sizes) bool

// name: the moves of the calls that may be inlined, in the order of a plan: those that are wanted and with which no limit is passed. Sizes never fall from move to move, so what fits at the end has fitted all along.
func name(p api.Program, wanted wish) ([]api.Move, api.Errno) {
	g, e := calls.New(p)
	if e != api.OK {
		return nil, e
	}
	bodies := bodiesOf(p)
	may := mayInline(g, bodies)
	var named []api.Move
	now := sizes{locations: code.Locations(p)}
	for n, f := range p.Funcs {
		now.vars, now.instrs = f.Vars, len(f.Code)
		for at, x := range f.Code {
			if !may(n, x) {
				continue
			}
			m, behind := api.Move{Func: n, At: at}, now.with(bodies[x.N])
			if wanted(m, p.Funcs[x.N], behind) && behind.allowed() {
				named, now = append(named, m), behind
			}
		}
	}
	return named, api.OK
}

// mayInline: the question whether an instruction of a function is a call that may be inlined.
func mayInline(g *calls.Graph, bodies []body) func(caller int, x api.Instr) bool {
	return func(caller int, x api.Instr) bool {
		return x.Op == api.Call && !bodies[x.N].addr && g.Of(caller) != g.Of(x.N)
	}
}
