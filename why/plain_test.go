package why_test

import (
	"slices"

	"fugue/api"
)

const k = api.MaxDeref

// factOf: Func, Dst, Src, Derefs.
func factOf(s api.Step) [4]int { return [4]int{s.Func, s.Dst, s.Src, s.Derefs} }

// at: a variable's location.
func at(f api.Func, v int) int { return 1 + f.Results + v }

// newAt: the location of the New at a place.
func newAt(f api.Func, place int) int {
	l := at(f, f.Vars)
	for _, x := range f.Code[:place] {
		if x.Op == api.New {
			l++
		}
	}
	return l
}

// locations: how many a function has.
func locations(f api.Func) int { return newAt(f, len(f.Code)) }

func plus(d, w int) int { return min(max(d, 0)+w, k) }

// edges: Dst, Src, Derefs of those that an instruction gives, by DOC.md's words; of a call none.
func edges(f api.Func, place int) [][3]int {
	x := f.Code[place]
	r, s := at(f, x.R), at(f, x.S)
	switch x.Op {
	case api.Copy:
		return [][3]int{{r, s, 0}}
	case api.Addr:
		return [][3]int{{r, s, -1}}
	case api.New:
		return [][3]int{{r, newAt(f, place), -1}}
	case api.Load:
		return [][3]int{{r, s, 1}}
	case api.Store, api.Set:
		return [][3]int{{0, s, 0}}
	}
	var l [][3]int
	if x.Op == api.Return {
		for j, v := range x.Args {
			l = append(l, [3]int{1 + j, at(f, v), 0})
		}
	}
	return l
}

// ways: Dst in the callee, what the caller has for it, the callee's parameter, the argument: of a call, by rule 3 or 4.
func ways(p api.Program, f api.Func, x api.Instr, rule int) [][4]int {
	var l [][4]int
	g := p.Funcs[x.N]
	for i, v := range x.Args {
		if rule == 3 {
			l = append(l, [4]int{0, 0, at(g, i), at(f, v)})
			continue
		}
		for j, m := range x.Rets {
			l = append(l, [4]int{1 + j, at(f, m), at(g, i), at(f, v)})
		}
	}
	return l
}

// plainStands: does s stand, these being the steps ahead of it? By the words of the table.
func plainStands(p api.Program, ahead []api.Step, s api.Step) bool {
	if s.Func < 0 || s.Func >= len(p.Funcs) {
		return false
	}
	f := p.Funcs[s.Func]
	switch s.Rule {
	case 1:
		return s.Src == s.Dst && s.Dst >= 0 && s.Dst <= f.Results && s.Derefs == 0 && s.At == 0
	case 5:
		return s.Dst == 0 && s.Src > f.Results && s.Src < locations(f) && s.Derefs == 0 && s.At == 0 &&
			slices.ContainsFunc(ahead, func(a api.Step) bool { return a.Func == s.Func && a.Src == s.Src && a.Derefs == -1 })
	case 2, 3, 4:
		if s.At < 0 || s.At >= len(f.Code) {
			return false
		}
	default:
		return false
	}
	onto := func(m, v int) bool { // a step ahead tells (f, d, m, u), with w = Plus(u, v)
		return slices.ContainsFunc(ahead, func(a api.Step) bool {
			return a.Func == s.Func && a.Dst == s.Dst && a.Src == m && s.Derefs == plus(a.Derefs, v)
		})
	}
	x := f.Code[s.At]
	if s.Rule == 2 {
		return x.Op != api.Call && slices.ContainsFunc(edges(f, s.At), func(e [3]int) bool { return e[1] == s.Src && onto(e[0], e[2]) })
	}
	if x.Op != api.Call {
		return false
	}
	for _, y := range ways(p, f, x, s.Rule) {
		for _, a := range ahead {
			if y[3] == s.Src && a.Func == x.N && a.Dst == y[0] && a.Src == y[2] && onto(y[1], max(a.Derefs, 0)) {
				return true
			}
		}
	}
	return false
}

// allStand: each of them, by those ahead of it.
func allStand(p api.Program, w []api.Step) bool {
	for i, s := range w {
		if !plainStands(p, w[:i], s) {
			return false
		}
	}
	return true
}

// plainLocation: of a site that is one.
func plainLocation(p api.Program, s api.Site) int {
	f := p.Funcs[s.Func]
	if s.At < 0 {
		return at(f, s.Var)
	}
	return newAt(f, s.At)
}

// plainWitness: is it one of that site?
func plainWitness(p api.Program, s api.Site, w []api.Step) bool {
	if len(w) == 0 || !allStand(p, w) {
		return false
	}
	last := w[len(w)-1]
	return last.Func == s.Func && last.Src == plainLocation(p, s) && last.Derefs == -1
}

// closure: a step for each fact that can be told at all, each behind those that it leans on.
type closure struct {
	all  []api.Step
	have map[[4]int]bool
}

func (c *closure) add(s api.Step) {
	if !c.have[factOf(s)] {
		c.have[factOf(s)] = true
		c.all = append(c.all, s)
	}
}

// from: what follows from what is known of mid, by a flow of src to it.
func (c *closure) from(n, results, mid, src, v, rule, place int) {
	for d := range results + 1 {
		for u := -1; u <= k; u++ {
			if c.have[[4]int{n, d, mid, u}] {
				c.add(api.Step{Func: n, Dst: d, Src: src, Derefs: plus(u, v), Rule: rule, At: place})
			}
		}
	}
}

// round: what follows in a function from what is known.
func (c *closure) round(p api.Program, n int) {
	f := p.Funcs[n]
	for d := range f.Results + 1 {
		c.add(api.Step{Func: n, Dst: d, Src: d, Rule: 1})
	}
	for place, x := range f.Code {
		for _, e := range edges(f, place) {
			c.from(n, f.Results, e[0], e[1], e[2], 2, place)
		}
		if x.Op != api.Call {
			continue
		}
		for rule := 3; rule <= 4; rule++ {
			for _, y := range ways(p, f, x, rule) {
				for u := -1; u <= k; u++ {
					if c.have[[4]int{x.N, y[0], y[2], u}] {
						c.from(n, f.Results, y[1], y[3], max(u, 0), rule, place)
					}
				}
			}
		}
	}
	for _, s := range c.all {
		if s.Func == n && s.Derefs == -1 {
			c.add(api.Step{Func: n, Src: s.Src, Rule: 5})
		}
	}
}

func closed(p api.Program) *closure {
	c := &closure{have: map[[4]int]bool{}}
	for many := -1; many < len(c.all); {
		many = len(c.all)
		for n := range p.Funcs {
			c.round(p, n)
		}
	}
	return c
}
