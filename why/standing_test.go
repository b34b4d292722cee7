package why_test

import (
	"slices"
	"testing"

	"fugue/api"
	"fugue/why"
)

// probe: the last function of these tests' programs. Behind any steps that all stand its witness passes, and behind others it does not.
const probe = "func params 0 results 1 vars 2\nv1 = &v0\nreturn v1\n"

// probed: the list with the probe's witness behind it passes just if each of its steps stands.
func probed(p api.Program, w []api.Step) bool {
	n := len(p.Funcs) - 1
	behind := steps(numbers{n, 1, 1, 0, 1, 0}, numbers{n, 1, 3, 0, 2, 1}, numbers{n, 1, 2, -1, 2, 0})
	return why.Check(p, variable(n, 0), joined(w, behind)) == api.OK
}

// roots: the steps that stand without any ahead of them.
func roots(p api.Program) []api.Step {
	var l []api.Step
	for n, f := range p.Funcs {
		for d := range f.Results + 1 {
			l = append(l, step(numbers{n, d, d, 0, 1, 0}))
		}
	}
	return l
}

// eachStep: all whose numbers may be those of a step of the program.
func eachStep(p api.Program, do func(api.Step)) {
	for n, f := range p.Funcs {
		for d := range locations(f) {
			for s := range locations(f) {
				for w := -1; w <= k; w++ {
					for rule := 1; rule <= 5; rule++ {
						for place := range f.Code {
							do(step(numbers{n, d, s, w, rule, place}))
						}
					}
				}
			}
		}
	}
}

// out: the step with one of its numbers out of range.
func out(p api.Program, s api.Step, do func(api.Step)) {
	f := p.Funcs[s.Func]
	for _, n := range append([]int{-1, len(p.Funcs)}, far...) {
		x := s
		x.Func = n
		do(x)
	}
	for _, n := range append([]int{-1, locations(f)}, far...) {
		x, y := s, s
		x.Dst, y.Src = n, n
		do(x)
		do(y)
		x.Src = n
		do(x)
	}
	for _, n := range append([]int{k + 1, k + 2, api.None}, far...) {
		x := s
		x.Derefs = n
		do(x)
	}
	for _, n := range append([]int{-1, 0, 6, 7}, far...) {
		x := s
		x.Rule = n
		do(x)
	}
	for _, n := range append([]int{-1, len(f.Code)}, far...) {
		x := s
		x.At = n
		do(x)
	}
}

// standing: behind those steps, which stand, just these stand, besides the roots and those steps themselves once more.
func standing(t *testing.T, what string, p api.Program, ahead []api.Step, want ...numbers) {
	t.Helper()
	if !probed(p, ahead) {
		t.Errorf("P18.1: %s: %v do not stand", what, ahead)
		return
	}
	stand := joined(roots(p), ahead, steps(want...))
	eachStep(p, func(s api.Step) {
		if is := probed(p, append(slices.Clone(ahead), s)); is != slices.Contains(stand, s) {
			t.Errorf("P18.1: %s: behind %v: does %v stand: %v", what, ahead, s, is)
		}
	})
	for _, x := range stand {
		out(p, x, func(s api.Step) {
			if probed(p, append(slices.Clone(ahead), s)) {
				t.Errorf("P18.1: %s: behind %v: %v stands", what, ahead, s)
			}
		})
	}
}

func TestRoots(t *testing.T) {
	standing(t, "nothing", of(t, fn(1, 2, 2, "v1 = &v0;g0 = v1;return v1, v0"), fn(0, 0, 1, "v0 = new 1;return"), probe), nil)
	standing(t, "a root", of(t, fn(0, 4, 1, "return v0, v0, v0, v0"), probe), steps(numbers{0, 2, 2, 0, 1, 0}), numbers{0, 2, 5, 0, 2, 0})
	standing(t, "no results", of(t, fn(0, 0, 1, "v0 = &v0;return"), probe), steps(numbers{0, 0, 0, 0, 1, 0}))
}

// Each operation: locations 0 the heap, 1 the result, 2 to 4 the variables, 5 the New.
func TestCode(t *testing.T) {
	p := of(t, fn(0, 1, 3, "v0 = v1;v0 = &v1;v0 = new 1;v0 = v1.0;v0.0 = v1;g0 = v1;v0 = g0;v0 = int 5;v0 = null;v0 = v1 + v2;v0 = v1 < v2;v0 = v1 == v2;print v1;if v1 jump 0;return v0;jump 0"), probe)
	out := []numbers{{0, 1, 1, 0, 1, 0}, {0, 1, 2, 0, 2, 14}}
	standing(t, "operations", p, steps(out[:1]...), out[1])
	standing(t, "operations", p, steps(out...), numbers{0, 1, 3, 0, 2, 0}, numbers{0, 1, 3, -1, 2, 1}, numbers{0, 1, 5, -1, 2, 2}, numbers{0, 1, 3, 1, 2, 3})
	standing(t, "operations", p, steps(numbers{0, 0, 0, 0, 1, 0}), numbers{0, 0, 3, 0, 2, 4}, numbers{0, 0, 3, 0, 2, 5})
}

// A Return gives several edges: one of them, to where it goes.
func TestReturns(t *testing.T) {
	p := of(t, fn(0, 3, 2, "return v0, v1, v0;return v1, v1, v1"), probe)
	one, three := numbers{0, 1, 1, 0, 1, 0}, numbers{0, 3, 3, 0, 1, 0}
	standing(t, "a Return", p, steps(one), numbers{0, 1, 4, 0, 2, 0}, numbers{0, 1, 5, 0, 2, 1})
	standing(t, "a Return", p, steps(numbers{0, 2, 2, 0, 1, 0}), numbers{0, 2, 5, 0, 2, 0}, numbers{0, 2, 5, 0, 2, 1})
	standing(t, "a Return", p, steps(one, three), numbers{0, 1, 4, 0, 2, 0}, numbers{0, 3, 4, 0, 2, 0}, numbers{0, 1, 5, 0, 2, 1}, numbers{0, 3, 5, 0, 2, 1})
}

// News: each has its own location, in the order of the code.
func TestNews(t *testing.T) {
	p := of(t, fn(0, 0, 1, "jump 2;v0 = new 1;g0 = v0;v0 = new 8;v0 = new 2;return"), probe)
	standing(t, "News", p, steps(numbers{0, 0, 0, 0, 1, 0}, numbers{0, 0, 1, 0, 2, 2}), numbers{0, 0, 2, -1, 2, 1}, numbers{0, 0, 3, -1, 2, 3}, numbers{0, 0, 4, -1, 2, 4})
}

// Numbers end at 3, and -1 counts as 0 when more is added: locations are the variables' numbers and 1.
func TestDerefs(t *testing.T) {
	p := of(t, fn(0, 0, 6, "g0 = v0;v0 = v1.0;v1 = v1.0;v1 = &v2;v2 = v3.0;v2 = v4;v2 = &v5;return"), probe)
	l := []numbers{{0, 0, 0, 0, 1, 0}, {0, 0, 1, 0, 2, 0}, {0, 0, 2, 1, 2, 1}, {0, 0, 2, 2, 2, 2}, {0, 0, 2, 3, 2, 2}}
	standing(t, "1", p, steps(l[:3]...), numbers{0, 0, 2, 2, 2, 2}, numbers{0, 0, 3, 0, 2, 3})
	standing(t, "1 and 2", p, steps(l[:4]...), numbers{0, 0, 2, 3, 2, 2}, numbers{0, 0, 3, 0, 2, 3}, numbers{0, 0, 3, 1, 2, 3})
	standing(t, "1, 2 and 3", p, steps(l...), numbers{0, 0, 3, 0, 2, 3}, numbers{0, 0, 3, 1, 2, 3}, numbers{0, 0, 3, 2, 2, 3})
	l = append(l, numbers{0, 0, 3, 2, 2, 3}) // 3 or more, less one
	standing(t, "back to 2", p, steps(l...), numbers{0, 0, 3, 0, 2, 3}, numbers{0, 0, 3, 1, 2, 3}, numbers{0, 0, 4, 3, 2, 4}, numbers{0, 0, 5, 2, 2, 5}, numbers{0, 0, 6, 1, 2, 6})

	p = of(t, fn(0, 0, 5, "g0 = v0;v0 = &v1;v1 = v2.0;v1 = v3;v1 = &v4;return"), probe)
	l = []numbers{{0, 0, 0, 0, 1, 0}, {0, 0, 1, 0, 2, 0}, {0, 0, 2, -1, 2, 1}}
	standing(t, "onto -1", p, steps(l...), numbers{0, 0, 2, 0, 5, 0}, numbers{0, 0, 3, 1, 2, 2}, numbers{0, 0, 4, 0, 2, 3}, numbers{0, 0, 5, -1, 2, 4})
}

// A variable that flows to itself, and edges that are there twice.
func TestRoundAbout(t *testing.T) {
	p := of(t, fn(0, 0, 2, "g0 = v0;g1 = v0;v0 = v0;v0 = v0.0;v0 = &v0;v1 = v0;return"), probe)
	l := steps(numbers{0, 0, 0, 0, 1, 0}, numbers{0, 0, 1, 0, 2, 0})
	standing(t, "to itself", p, l, numbers{0, 0, 1, 0, 2, 1}, numbers{0, 0, 1, 0, 2, 2}, numbers{0, 0, 1, 1, 2, 3}, numbers{0, 0, 1, -1, 2, 4})
}

// A call to the heap: f0 has the heap, the result and three variables, f1 the heap, a result and three variables, two of them parameters.
func TestCallToHeap(t *testing.T) {
	p := of(t, fn(0, 1, 3, "v2 = f1(v0, v1);return v2"), fn(2, 1, 3, "g0 = v0;v2 = v1.0;g0 = v2;return v2"), probe)
	callee := []numbers{{1, 0, 0, 0, 1, 0}, {1, 0, 2, 0, 2, 0}, {1, 0, 4, 0, 2, 2}, {1, 0, 3, 1, 2, 1}}
	root := numbers{0, 0, 0, 0, 1, 0}
	standing(t, "the callee alone", p, steps(callee...))
	standing(t, "the root alone", p, steps(root))
	standing(t, "the callee's root", p, append(steps(callee[0]), step(root)), callee[1], callee[2])
	standing(t, "one parameter", p, append(steps(callee[:2]...), step(root)), callee[2], numbers{0, 0, 2, 0, 3, 0})
	standing(t, "the root first", p, append(steps(root), steps(callee[:2]...)...), callee[2], numbers{0, 0, 2, 0, 3, 0})
	standing(t, "both", p, append(steps(callee...), step(root)), numbers{0, 0, 2, 0, 3, 0}, numbers{0, 0, 3, 1, 3, 0})
	standing(t, "and the result's root", p, append(steps(callee...), steps(root, numbers{0, 1, 1, 0, 1, 0})...), numbers{0, 0, 2, 0, 3, 0}, numbers{0, 0, 3, 1, 3, 0}, numbers{0, 1, 4, 0, 2, 1})
}

// A Return has Args too, and is no call, of function 0 neither.
func TestReturnIsNoCall(t *testing.T) {
	p := of(t, fn(1, 1, 1, "g0 = v0;return v0"), fn(1, 1, 1, "return v0"), probe)
	l := []numbers{{0, 0, 0, 0, 1, 0}, {0, 0, 2, 0, 2, 0}, {0, 1, 1, 0, 1, 0}, {0, 1, 2, 0, 2, 1}, {1, 0, 0, 0, 1, 0}, {1, 1, 1, 0, 1, 0}}
	standing(t, "a Return", p, steps(l...), numbers{1, 1, 2, 0, 2, 0})
}

// A call to a result.
func TestCallToResult(t *testing.T) {
	p := of(t, fn(0, 1, 4, "v2, v3 = f1(v0, v1);return v2"), fn(2, 2, 3, "v2 = v0.0;return v1, v2"), probe)
	callee := []numbers{{1, 1, 1, 0, 1, 0}, {1, 1, 4, 0, 2, 1}, {1, 2, 2, 0, 1, 0}, {1, 2, 5, 0, 2, 1}, {1, 2, 3, 1, 2, 0}}
	own := []numbers{{0, 1, 1, 0, 1, 0}, {0, 1, 4, 0, 2, 1}}
	standing(t, "the callee alone", p, steps(callee...))
	standing(t, "without the call's result", p, append(steps(callee...), step(own[0])), own[1])
	standing(t, "without the callee", p, steps(own...))
	standing(t, "with its roots alone", p, append(steps(own...), steps(callee[0], callee[2])...), callee[1], callee[3])
	standing(t, "one result", p, append(steps(callee...), steps(own...)...), numbers{0, 1, 3, 0, 4, 0})
	p.Funcs[0].Code[1].Args[0] = 3 // the other result is returned
	own[1] = numbers{0, 1, 5, 0, 2, 1}
	standing(t, "the other result", p, append(steps(callee...), steps(own...)...), numbers{0, 1, 2, 1, 4, 0})
	p.Funcs[0].Code[0].Rets = []int{3, 3}
	standing(t, "both in one", p, append(steps(callee...), steps(own...)...), numbers{0, 1, 3, 0, 4, 0}, numbers{0, 1, 2, 1, 4, 0})
}

// One variable at two places of Args has what both lead to.
func TestArgsTwice(t *testing.T) {
	p := of(t, fn(0, 0, 2, "v1 = f1(v0, v0, v1);g0 = v1;return"), fn(3, 1, 4, "g1 = v2;v3 = v0.1;g1 = v3;return v1"), probe)
	callee := []numbers{{1, 0, 0, 0, 1, 0}, {1, 0, 4, 0, 2, 0}, {1, 0, 5, 0, 2, 2}, {1, 0, 2, 1, 2, 1}, {1, 1, 1, 0, 1, 0}, {1, 1, 3, 0, 2, 3}}
	own := []numbers{{0, 0, 0, 0, 1, 0}, {0, 0, 2, 0, 2, 1}}
	standing(t, "Args twice", p, append(steps(callee...), steps(own...)...), numbers{0, 0, 1, 1, 3, 0}, numbers{0, 0, 2, 0, 3, 0}, numbers{0, 0, 1, 0, 4, 0})
}

// Rets that are Args: the value from ahead of the call flows on to what the same variable has behind it.
func TestRetsAreArgs(t *testing.T) {
	p := of(t, fn(0, 0, 2, "v0, v1 = f1(v0, v1);g0 = v0;return"), fn(2, 2, 3, "v2 = v1.0;return v2, v0"), probe)
	callee := []numbers{{1, 1, 1, 0, 1, 0}, {1, 1, 5, 0, 2, 1}, {1, 1, 4, 1, 2, 0}, {1, 2, 2, 0, 1, 0}, {1, 2, 3, 0, 2, 1}}
	own := []numbers{{0, 0, 0, 0, 1, 0}, {0, 0, 1, 0, 2, 1}, {0, 0, 2, 1, 4, 0}, {0, 0, 1, 1, 4, 0}, {0, 0, 2, 2, 4, 0}, {0, 0, 1, 2, 4, 0}, {0, 0, 2, 3, 4, 0}, {0, 0, 1, 3, 4, 0}}
	for i := 2; i < len(own); i++ {
		standing(t, "Rets that are Args", p, append(steps(callee...), steps(own[:i]...)...), own[i])
	}
	standing(t, "Rets that are Args, all", p, append(steps(callee...), steps(own...)...))
}

// What a callee tells with -1 counts as 0, and the numbers of both are added, up to 3.
func TestCalleesNumbers(t *testing.T) {
	p := of(t, fn(0, 1, 3, "v1 = f1(v0);v2 = v1.0;return v2"), fn(1, 1, 2, "v1 = &v0;g0 = v1;return v1"), probe)
	callee := []numbers{{1, 0, 0, 0, 1, 0}, {1, 0, 3, 0, 2, 1}, {1, 0, 2, -1, 2, 0}, {1, 1, 1, 0, 1, 0}, {1, 1, 3, 0, 2, 2}, {1, 1, 2, -1, 2, 0}}
	own := []numbers{{0, 0, 0, 0, 1, 0}, {0, 1, 1, 0, 1, 0}, {0, 1, 4, 0, 2, 2}, {0, 1, 3, 1, 2, 1}}
	standing(t, "-1 in the callee", p, append(steps(callee...), steps(own...)...), numbers{1, 0, 2, 0, 5, 0}, numbers{0, 0, 2, 0, 3, 0}, numbers{0, 1, 2, 1, 4, 0})

	p = of(t, fn(0, 1, 4, "v0 = f1(v1);v1 = f1(v2);v2 = &v3;return v0"), fn(1, 1, 2, "v1 = v0.0;v0 = v1.0;return v0"), probe)
	callee = []numbers{{1, 1, 1, 0, 1, 0}, {1, 1, 2, 0, 2, 2}, {1, 1, 3, 1, 2, 1}, {1, 1, 2, 2, 2, 0}}
	own = []numbers{{0, 1, 1, 0, 1, 0}, {0, 1, 2, 0, 2, 3}, {0, 1, 3, 2, 4, 0}, {0, 1, 4, 3, 4, 1}, {0, 1, 5, 2, 2, 2}}
	more := []numbers{{1, 1, 3, 3, 2, 1}, {0, 1, 3, 0, 4, 0}} // of the callee; of its parameter as it is returned at once
	standing(t, "2", p, append(steps(callee...), steps(own[:2]...)...), more[0], more[1], own[2])
	standing(t, "2 and 2", p, append(steps(callee...), steps(own[:3]...)...), more[0], more[1], own[3], numbers{0, 1, 4, 2, 4, 1})
	standing(t, "3 less one", p, append(steps(callee...), steps(own[:4]...)...), more[0], more[1], own[4], numbers{0, 1, 4, 2, 4, 1})
}

// A function that calls itself: nothing stands by itself, only by steps ahead.
func TestCallOfItself(t *testing.T) {
	p := of(t, fn(1, 1, 3, "v1 = v0.0;v2 = f0(v1);if v0 jump 4;return v2;return v0"), probe)
	l := []numbers{{0, 1, 1, 0, 1, 0}, {0, 1, 4, 0, 2, 3}}
	standing(t, "without a way out", p, steps(l...), numbers{0, 1, 2, 0, 2, 4})
	l = append(l, numbers{0, 1, 2, 0, 2, 4})
	standing(t, "with one", p, steps(l...), numbers{0, 1, 3, 0, 4, 1})
	l = append(l, numbers{0, 1, 3, 0, 4, 1})
	standing(t, "once round", p, steps(l...), numbers{0, 1, 2, 1, 2, 0})
	l = append(l, numbers{0, 1, 2, 1, 2, 0})
	standing(t, "once more", p, steps(l...), numbers{0, 1, 3, 1, 4, 1})

	p = of(t, fn(1, 0, 1, "f0(v0);return"), probe)
	standing(t, "nothing but itself", p, steps(numbers{0, 0, 0, 0, 1, 0}))
	p = of(t, fn(1, 0, 1, "f0(v0);g0 = v0;return"), probe)
	standing(t, "itself to the heap", p, steps(numbers{0, 0, 0, 0, 1, 0}, numbers{0, 0, 1, 0, 2, 1}), numbers{0, 0, 1, 0, 3, 0})
}

// Functions in a ring: none supports itself by the other.
func TestRing(t *testing.T) {
	p := of(t, fn(1, 1, 2, "v1 = f1(v0);return v1"), fn(1, 1, 2, "v1 = f0(v0);return v1"), probe)
	l := steps(numbers{0, 1, 1, 0, 1, 0}, numbers{1, 1, 1, 0, 1, 0}, numbers{0, 1, 3, 0, 2, 1}, numbers{1, 1, 3, 0, 2, 1})
	standing(t, "a ring", p, l)
	around := joined(l, steps(numbers{0, 1, 2, 0, 4, 0}, numbers{1, 1, 2, 0, 4, 0}))
	if probed(p, around) || probed(p, append(around, around...)) {
		t.Error("P18.1: two steps of a ring support each other")
	}
	p = of(t, fn(1, 1, 2, "v1 = f1(v0);return v1;return v0"), fn(1, 1, 2, "v1 = f0(v0);return v1"), probe)
	standing(t, "a ring with a way out", p, append(l, step(numbers{0, 1, 2, 0, 2, 2})), numbers{1, 1, 2, 0, 4, 0})
	standing(t, "a ring, and round", p, append(l, steps(numbers{0, 1, 2, 0, 2, 2}, numbers{1, 1, 2, 0, 4, 0})...), numbers{0, 1, 2, 0, 4, 0})
}

// What escapes counts as the heap: a variable, a New, by the heap or a result, and nothing else.
func TestEscapes(t *testing.T) {
	p := of(t, fn(0, 2, 4, "v1 = &v0;v1 = new 1;v0 = v2;v0 = &v3;return v1, v2"), probe) // variables 3 to 6, the New 7
	l := []numbers{{0, 1, 1, 0, 1, 0}, {0, 1, 4, 0, 2, 4}, {0, 1, 3, -1, 2, 0}}
	standing(t, "a variable", p, steps(l...), numbers{0, 0, 3, 0, 5, 0}, numbers{0, 1, 7, -1, 2, 1}, numbers{0, 1, 5, 0, 2, 2}, numbers{0, 1, 6, -1, 2, 3})
	standing(t, "a variable, and what flows into it", p, steps(append(l, numbers{0, 0, 3, 0, 5, 0})...), numbers{0, 1, 7, -1, 2, 1}, numbers{0, 1, 5, 0, 2, 2}, numbers{0, 1, 6, -1, 2, 3}, numbers{0, 0, 5, 0, 2, 2}, numbers{0, 0, 6, -1, 2, 3})
	standing(t, "a New", p, steps(l[0], l[1], numbers{0, 1, 7, -1, 2, 1}), numbers{0, 0, 7, 0, 5, 0}, numbers{0, 1, 3, -1, 2, 0})
	p = of(t, fn(0, 0, 2, "g0 = v0;v0 = &v1;v1 = &v0;return"), probe)
	h := []numbers{{0, 0, 0, 0, 1, 0}, {0, 0, 1, 0, 2, 0}, {0, 0, 2, -1, 2, 1}, {0, 0, 1, -1, 2, 2}}
	standing(t, "by the heap", p, steps(h[:3]...), numbers{0, 0, 2, 0, 5, 0}, numbers{0, 0, 1, -1, 2, 2})
	standing(t, "both by the heap", p, steps(h...), numbers{0, 0, 2, 0, 5, 0}, numbers{0, 0, 1, 0, 5, 0})
	p = of(t, fn(1, 0, 1, "v0 = &v0;return"), fn(1, 0, 2, "g0 = v1;v1 = &v0;return"), probe)
	standing(t, "of another function", p, steps(numbers{1, 0, 0, 0, 1, 0}, numbers{1, 0, 2, 0, 2, 0}, numbers{1, 0, 1, -1, 2, 1}), numbers{1, 0, 1, 0, 5, 0})
}
