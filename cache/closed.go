package cache

import (
	"slices"

	"fugue/api"
	"fugue/code"
)

// closed: a component's closed program.
type closed struct {
	program api.Program   // the component's functions, then the stubs
	members int           // how many functions the component has
	stubs   []api.Summary // by stub, whose least summary it is
	key     string        // without bytes, if it has none: no right program is without
}

func closedOf(p api.Program, members []int, sums []api.Summary) closed {
	c := closing{p: p, sums: sums, members: members, numbers: make(map[likeness]int), room: api.MaxLocs}
	var own []api.Func
	for _, f := range members {
		own = append(own, c.function(p.Funcs[f]))
	}
	q := api.Program{Globals: api.MaxGlobals, Funcs: append(own, c.stubs...)}
	key, _ := code.Encode(q) // a program that is not right has no bytes, and so no key
	return closed{q, len(members), c.told, string(key)}
}

// closing: what is gathered on the way to a closed program.
type closing struct {
	p       api.Program
	sums    []api.Summary // by function of p; of all that the component calls they are there
	members []int
	stubs   []api.Func
	told    []api.Summary    // by stub
	numbers map[likeness]int // the stubs' places, by what they are like
	room    int              // how many variables more stubs may have, at most
}

// function: one of the component's, with its calls by the numbers of the closed program.
func (c *closing) function(f api.Func) api.Func {
	f.Code = slices.Clone(f.Code)
	for at, x := range f.Code {
		if x.Op == api.Call {
			f.Code[at].N = c.number(x.N)
		}
	}
	return f
}

// number: under which number a function that is called stands in the closed program.
func (c *closing) number(callee int) int {
	if n, is := slices.BinarySearch(c.members, callee); is {
		return n
	}
	f, s := c.p.Funcs[callee], c.sums[callee]
	like := likenessOf(f, s)
	n, is := c.numbers[like]
	if !is {
		n = len(c.stubs)
		c.numbers[like] = n
		c.stubs = append(c.stubs, c.stub(f, s))
		c.told = append(c.told, s)
	}
	return len(c.members) + n
}

// stub: where there are too many variables already, nothing is laid any more: the program has no key, and what many calls ask for would be far longer than they are.
func (c *closing) stub(f api.Func, s api.Summary) api.Func {
	if c.room < 0 {
		return api.Func{}
	}
	g := stubOf(f.Params, f.Results, s)
	c.room -= g.Vars
	return g
}

// likeness: what functions that have one stub have in common. (Without how many parameters and results there are two of different shapes might have the same numbers.)
type likeness struct {
	params, results int
	numbers         [api.MaxParams][1 + api.MaxResults]int
}

func likenessOf(f api.Func, s api.Summary) likeness {
	l := likeness{params: f.Params, results: f.Results}
	for i, d := range s.Heap {
		l.numbers[i][0] = d
		copy(l.numbers[i][1:], s.Result[i])
	}
	return l
}
