package why_test

import (
	"fmt"
	"math/rand"
	"slices"
	"strings"
	"testing"

	"fugue/api"
)

// plainLine: a step's, by the words of P18.3.
func plainLine(p api.Program, s api.Step) string {
	f := p.Funcs[s.Func]
	name := func(l int) string {
		switch {
		case l == 0:
			return "heap"
		case l <= f.Results:
			return fmt.Sprintf("result %d", l-1)
		case l < at(f, f.Vars):
			return fmt.Sprintf("var %d", l-at(f, 0))
		}
		for place, x := range f.Code {
			if x.Op == api.New && newAt(f, place) == l {
				return fmt.Sprintf("new %d", place)
			}
		}
		return "?"
	}
	rule := []string{"", "root", fmt.Sprintf("code %d", s.At), fmt.Sprintf("call %d", s.At), fmt.Sprintf("call %d", s.At), "escapes"}[s.Rule]
	return fmt.Sprintf("f%d: %s -> %s (%d) %s\n", s.Func, name(s.Src), name(s.Dst), s.Derefs, rule)
}

// shown: a function with each kind of location, News at 1 and 3.
func shown(t *testing.T) api.Program {
	t.Helper()
	return of(t, fn(0, 0, 0, "return"), fn(1, 2, 3, "v1 = &v0;v0 = new 1;g0 = v0;v2 = new 8;return v1, v2"))
}

func TestLines(t *testing.T) {
	p := shown(t)
	for _, c := range []struct {
		s    numbers
		want string
	}{
		{numbers{1, 0, 0, 0, 1, 0}, "f1: heap -> heap (0) root\n"},
		{numbers{0, 0, 0, 0, 1, 0}, "f0: heap -> heap (0) root\n"},
		{numbers{1, 1, 1, 0, 1, 0}, "f1: result 0 -> result 0 (0) root\n"},
		{numbers{1, 2, 2, 0, 1, 0}, "f1: result 1 -> result 1 (0) root\n"},
		{numbers{1, 0, 3, 1, 2, 2}, "f1: var 0 -> heap (1) code 2\n"},
		{numbers{1, 1, 4, 2, 2, 4}, "f1: var 1 -> result 0 (2) code 4\n"},
		{numbers{1, 2, 5, 3, 2, 0}, "f1: var 2 -> result 1 (3) code 0\n"},
		{numbers{1, 0, 6, -1, 2, 1}, "f1: new 1 -> heap (-1) code 1\n"},
		{numbers{1, 2, 7, -1, 2, 3}, "f1: new 3 -> result 1 (-1) code 3\n"},
		{numbers{1, 0, 3, 0, 3, 4}, "f1: var 0 -> heap (0) call 4\n"},
		{numbers{1, 2, 4, 0, 4, 1}, "f1: var 1 -> result 1 (0) call 1\n"},
		{numbers{1, 0, 6, 0, 5, 0}, "f1: new 1 -> heap (0) escapes\n"},
		{numbers{1, 0, 6, 0, 5, 4}, "f1: new 1 -> heap (0) escapes\n"},
		{numbers{1, 0, 6, 0, 1, 3}, "f1: new 1 -> heap (0) root\n"},
		{numbers{1, 3, 0, 3, 2, 0}, "f1: heap -> var 0 (3) code 0\n"},
		{numbers{1, 7, 1, -1, 3, 0}, "f1: result 0 -> new 3 (-1) call 0\n"},
	} {
		prints(t, "a step", p, steps(c.s), c.want)
		prints(t, "a step twice", p, steps(c.s, c.s), c.want+c.want)
	}
}

// All that may be told is, whether it stands or not.
func TestEachLine(t *testing.T) {
	p := shown(t)
	var all []api.Step
	var want strings.Builder
	eachStep(p, func(s api.Step) {
		all = append(all, s)
		want.WriteString(plainLine(p, s))
		prints(t, "each step", p, []api.Step{s}, plainLine(p, s))
	})
	prints(t, "all steps", p, all, want.String())
}

func TestNoLines(t *testing.T) {
	prints(t, "no steps", shown(t), nil, "")
	prints(t, "no steps", shown(t), []api.Step{}, "")
}

// Each number out of range, in a step that stands alone, and ahead of, between and behind others.
func TestLinesOfNone(t *testing.T) {
	p := shown(t)
	good := steps(numbers{1, 0, 0, 0, 1, 0}, numbers{1, 0, 3, 0, 2, 2}, numbers{1, 0, 6, -1, 2, 1}, numbers{0, 0, 0, 3, 5, 0})
	var l []api.Step
	for _, s := range good {
		out(p, s, func(x api.Step) { l = append(l, x) })
	}
	l = append(l, steps(numbers{0, 1, 0, 0, 1, 0}, numbers{0, 0, 1, 0, 1, 0}, numbers{0, 0, 0, 0, 1, 1}, numbers{1, 8, 0, 0, 1, 0}, numbers{1, 0, 8, 0, 1, 0}, numbers{1, 0, 0, 0, 1, 5}, numbers{1, 0, 0, -2, 1, 0}, numbers{1, 0, 0, 4, 1, 0})...)
	for _, s := range l {
		printsNot(t, "alone", p, []api.Step{s}, api.ErrWitness)
		for i := range len(good) + 1 {
			printsNot(t, "among others", p, slices.Insert(slices.Clone(good), i, s), api.ErrWitness)
		}
	}
}

func TestLinesOfWitnesses(t *testing.T) {
	for seed := range 500 {
		r := rand.New(rand.NewSource(int64(seed)))
		p := anyProgram(r, kinds[seed%len(kinds)])
		for _, w := range append(agrees(t, "any program", p), closed(p).all) {
			var want strings.Builder
			for _, s := range w {
				want.WriteString(plainLine(p, s))
			}
			prints(t, "a witness", p, w, want.String())
		}
	}
}
