package inline

import (
	"slices"

	"fugue/api"
)

// variables: by operation which of its fields are variables: 1, where one is. (Args and Rets are, wherever they are.)
var variables = [api.Same + 1]struct{ r, s, t int }{
	api.Int:   {r: 1},
	api.Copy:  {r: 1, s: 1},
	api.Add:   {r: 1, s: 1, t: 1},
	api.Less:  {r: 1, s: 1, t: 1},
	api.Addr:  {r: 1, s: 1},
	api.New:   {r: 1},
	api.Load:  {r: 1, s: 1},
	api.Store: {r: 1, s: 1},
	api.Get:   {r: 1},
	api.Set:   {s: 1},
	api.Print: {s: 1},
	api.If:    {s: 1},
	api.Null:  {r: 1},
	api.Same:  {r: 1, s: 1, t: 1},
}

// layer: how an instruction stands in the new code, if its variables begin at first there, and the pieces of the places that it may jump to at begin.
func layer(first int, begin []int) func(x api.Instr) api.Instr {
	return func(x api.Instr) api.Instr {
		is := variables[x.Op]
		x.R += is.r * first
		x.S += is.s * first
		x.T += is.t * first
		x.Args, x.Rets = raised(x.Args, first), raised(x.Rets, first)
		if x.Op == api.Jump || x.Op == api.If {
			x.N = begin[x.N]
		}
		return x
	}
}

// raised: a list of variables that begin at first, in new memory.
func raised(l []int, first int) []int {
	l = slices.Clone(l)
	for i := range l {
		l[i] += first
	}
	return l
}
