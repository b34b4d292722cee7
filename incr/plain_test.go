package incr_test

import (
	"slices"
	"testing"

	"fugue/api"
)

// plainReach: by function and function: does the one reach the other?
func plainReach(p api.Program) [][]bool {
	reach := make([][]bool, len(p.Funcs))
	for f, body := range p.Funcs {
		reach[f] = make([]bool, len(p.Funcs))
		reach[f][f] = true
		for _, x := range body.Code {
			if x.Op == api.Call {
				reach[f][x.N] = true
			}
		}
	}
	for k := range reach {
		for f := range reach {
			for g := range reach {
				reach[f][g] = reach[f][g] || reach[f][k] && reach[k][g]
			}
		}
	}
	return reach
}

// plainComponents: by their functions, in the order of their numbers: again and again the one with the lowest function, of those all of whose callees have a number.
func plainComponents(p api.Program) [][]int {
	reach := plainReach(p)
	var l [][]int
	numbered := make([]bool, len(p.Funcs))
	ready := func(f int) bool { // all that it reaches has a number, but for its own component
		for g := range p.Funcs {
			if reach[f][g] && !reach[g][f] && !numbered[g] {
				return false
			}
		}
		return !numbered[f]
	}
	for f := 0; f < len(p.Funcs); f++ {
		if !ready(f) {
			continue
		}
		var members []int
		for g := range p.Funcs {
			if reach[f][g] && reach[g][f] {
				members = append(members, g)
				numbered[g] = true
			}
		}
		l = append(l, members)
		f = -1 // from the lowest on
	}
	return l
}

func plainCalls(p api.Program, c, d []int) bool {
	for _, f := range c {
		for _, x := range p.Funcs[f].Code {
			if x.Op == api.Call && slices.Contains(d, x.N) {
				return true
			}
		}
	}
	return false
}

// reasons: how many components were solved anew, or not, for which reason alone.
type reasons struct {
	handed, fresh, called, quiet, kept int
}

// plainAnew: the chapter's words: the components that are solved anew when one program becomes the other by functions at these numbers.
func plainAnew(t *testing.T, was, now api.Program, at []int, why *reasons) [][]int {
	t.Helper()
	old, before, after := plainComponents(was), solved(t, was), solved(t, now)
	another := func(f int) bool {
		return f >= len(was.Funcs) || !alikeSum(before.Sums[f], after.Sums[f])
	}
	var anew [][]int
	for _, c := range plainComponents(now) {
		handed := slices.ContainsFunc(c, func(f int) bool { return slices.Contains(at, f) })
		fresh := !slices.ContainsFunc(old, func(o []int) bool { return slices.Equal(o, c) })
		called, quiet := false, false
		for _, d := range anew { // all that it calls stands ahead of it
			if plainCalls(now, c, d) {
				called = called || slices.ContainsFunc(d, another)
				quiet = true
			}
		}
		if handed || fresh || called {
			anew = append(anew, c)
		}
		why.count(handed, fresh, called, quiet)
	}
	return anew
}

func (why *reasons) count(handed, fresh, called, quiet bool) {
	switch {
	case handed && !fresh && !called:
		why.handed++
	case fresh && !handed && !called:
		why.fresh++
	case called && !handed && !fresh:
		why.called++
	case !handed && !fresh && quiet:
		why.quiet++
	case !handed && !fresh:
		why.kept++
	}
}
