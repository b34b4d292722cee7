package cert

import "fugue/api"

// visit: how far a function's code is gone through.
type visit struct {
	f, at int
}

// order: the functions that were met, and those of them that are over, each behind all that was first met from it. So whoever calls a ring from outside stands behind all of it.
type order struct {
	p    api.Program
	met  []bool
	over []int
}

// calleesFirst: all functions, each behind those that it calls, but where they call it in their turn.
func calleesFirst(p api.Program) []int {
	o := order{p: p, met: make([]bool, len(p.Funcs))}
	for f := range p.Funcs {
		if !o.met[f] {
			o.from(f)
		}
	}
	return o.over
}

// from: all that is met first from one function on. The visits that are not over stand in a list, since a chain of calls may be as long as there are functions.
func (o *order) from(first int) {
	o.met[first] = true
	visits := []visit{{f: first}}
	for len(visits) > 0 {
		last := &visits[len(visits)-1]
		if g, is := o.next(last); is {
			o.met[g] = true
			visits = append(visits, visit{f: g})
			continue
		}
		o.over = append(o.over, last.f)
		visits = visits[:len(visits)-1]
	}
}

// next: the next function that is called there and was not met yet.
func (o *order) next(v *visit) (int, bool) {
	code := o.p.Funcs[v.f].Code
	for v.at < len(code) {
		x := code[v.at]
		v.at++
		if x.Op == api.Call && !o.met[x.N] {
			return x.N, true
		}
	}
	return 0, false
}
