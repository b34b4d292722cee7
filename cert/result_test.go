package cert_test

import (
	"fmt"
	"math/rand"
	"slices"
	"testing"

	"fugue/api"
	"fugue/whole"
)

// resized: a list that is longer by one, shorter by one at either end, and missing, where that is another list.
func resized[T any](l []T, more T) [][]T {
	out := [][]T{append(slices.Clone(l), more), append([]T{more}, l...)}
	if len(l) > 0 {
		out = append(out, l[1:], l[:len(l)-1], nil)
	}
	return out
}

// eachOther: results that have one thing another than r.
func eachOther(r api.Result, do func(what string, r api.Result)) {
	eachNumber(r, do)
	eachTruth(r, do)
	eachSums(r, do)
	for _, l := range resized(r.Vars, nil) {
		c := copied(r)
		c.Vars = l
		do("Vars of another length", c)
	}
	for _, l := range resized(r.Code, nil) {
		c := copied(r)
		c.Code = l
		do("Code of another length", c)
	}
	for f := range r.Vars {
		for _, l := range resized(r.Vars[f], false) {
			c := copied(r)
			c.Vars[f] = l
			do(fmt.Sprint("Vars of another length in ", f), c)
		}
	}
	for f := range r.Code {
		for _, l := range resized(r.Code[f], false) {
			c := copied(r)
			c.Code[f] = l
			do(fmt.Sprint("Code of another length in ", f), c)
		}
	}
	do("nothing", api.Result{})
}

func eachNumber(r api.Result, do func(what string, r api.Result)) {
	for at, was := range places(r.Sums) {
		for _, n := range append([]int{0, 1, 2, 3, none}, far...) {
			if n != *was {
				c := copied(r)
				*places(c.Sums)[at] = n
				do(fmt.Sprintf("the number %d for %d", n, *was), c)
			}
		}
	}
}

func eachTruth(r api.Result, do func(what string, r api.Result)) {
	for at := range truths(r) {
		c := copied(r)
		x := truths(c)[at]
		*x = !*x
		do(fmt.Sprint("another truth at ", at), c)
	}
}

func eachSums(r api.Result, do func(what string, r api.Result)) {
	for _, l := range resized(r.Sums, api.Summary{}) {
		c := copied(r)
		c.Sums = l
		do("Sums of another length", c)
	}
	for f, s := range r.Sums {
		for _, l := range resized(s.Heap, none) {
			c := copied(r)
			c.Sums[f].Heap = l
			do(fmt.Sprint("Heap of another length in ", f), c)
		}
		for _, l := range resized(s.Result, nil) {
			c := copied(r)
			c.Sums[f].Result = l
			do(fmt.Sprint("Result of another length in ", f), c)
		}
		for i := range s.Result {
			for _, l := range resized(s.Result[i], none) {
				c := copied(r)
				c.Sums[f].Result[i] = l
				do(fmt.Sprintf("the result %d of another length in %d", i, f), c)
			}
		}
	}
}

// A result with one thing another passes with no certificate that is right for the least solution.
func TestOtherResults(t *testing.T) {
	many := 0
	for _, c := range []struct {
		p      api.Program
		passes []int
	}{
		{of(t, fn(0, 0, 0, "return")), nil},
		{of(t, fn(0, 0, 3, "v0 = &v1;v2 = f1(v0);return"), fn(1, 1, 1, "return v0")), []int{1}},
		{of(t, fn(0, 0, 3, "v0 = &v1;v2 = f1(v0);v0 = new 1;return"), fn(1, 1, 2, "g0 = v0;v1 = new 2;g1 = v1;return v0")), []int{1}},
		{of(t, fn(2, 2, 3, "g0 = v0;v2 = v1.0;return v0, v2")), []int{0}},
		{pair(t), []int{0, 0, 0, 1, 0, 1}},
	} {
		r := solved(t, c.p)
		b := bytesOf(c.passes...)
		accepts(t, "the result", c.p, r, b)
		accepts(t, "the result in new memory", c.p, copied(r), b)
		eachOther(r, func(what string, other api.Result) {
			many++
			refuses(t, what, c.p, other, b)
			refuses(t, what, c.p, other, bytesOf())
		})
	}
	if many < 400 {
		t.Errorf("only %d other results were tried", many)
	}
}

// Lists that are nil and lists without elements are the same.
func TestEmptyLists(t *testing.T) {
	p := of(t, fn(0, 0, 0, "return"), fn(1, 0, 1, "g0 = v0;return"))
	for _, r := range []api.Result{
		{Sums: []api.Summary{{}, {Heap: []int{0}, Result: [][]int{nil}}}, Vars: [][]bool{nil, {false}}, Code: [][]bool{{false}, {false, false}}},
		{Sums: []api.Summary{{Heap: []int{}, Result: [][]int{}}, {Heap: []int{0}, Result: [][]int{{}}}}, Vars: [][]bool{{}, {false}}, Code: [][]bool{{false}, {false, false}}},
	} {
		accepts(t, "empty lists", p, r, bytesOf(1))
	}
	for _, r := range []api.Result{
		{Sums: []api.Summary{{}, {Heap: []int{0}}}, Vars: [][]bool{nil, {false}}, Code: [][]bool{{false}, {false, false}}},
		{Sums: []api.Summary{{Result: [][]int{{}}}, {Heap: []int{0}, Result: [][]int{{}}}}, Vars: [][]bool{{}, {false}}, Code: [][]bool{{false}, {false, false}}},
	} {
		refuses(t, "a list of no lists", p, r, bytesOf(1))
	}
}

// Results of other programs, with their certificates and with the program's own.
func TestResultsOfOthers(t *testing.T) {
	l := []api.Program{
		of(t, fn(1, 1, 2, "return v0")), of(t, fn(1, 1, 2, "v1 = v0.0;return v1")), of(t, fn(1, 1, 2, "return v1")), of(t, fn(1, 1, 2, "g0 = v0;return v0")),
		of(t, fn(1, 1, 2, "v1 = &v0;return v1")), of(t, fn(1, 1, 2, "v1 = new 1;return v1")), of(t, fn(1, 1, 2, "v1 = f0(v0);return v1")), of(t, fn(0, 0, 0, "return")),
		of(t, fn(1, 1, 2, "return v0"), fn(1, 1, 2, "return v0")),
	}
	for i, p := range l {
		for k, q := range l {
			if r := solved(t, q); i != k && !alike(r, solved(t, p)) {
				refuses(t, "another's result", p, r, bytesOf(makes(t, "this one", p)...))
				refuses(t, "another's result", p, r, bytesOf(makes(t, "another", q)...))
			}
		}
	}
}

// All that may be said of a small program: right summaries of any numbers, and any truths; one passes, and it is the least solution's.
func TestAllResults(t *testing.T) {
	for _, p := range []api.Program{
		of(t, fn(1, 1, 2, "v1 = f0(v0);return v1")), of(t, fn(1, 1, 2, "v1 = &v0;return v1")), of(t, fn(1, 1, 1, "return v0")), of(t, fn(1, 0, 2, "v1 = new 1;v0.0 = v1;return")),
		of(t, fn(1, 0, 2, "v1 = v0.0;f1(v1);return"), fn(1, 0, 1, "g0 = v0;f0(v0);return")),
	} {
		b := bytesOf(makes(t, "a small program", p)...)
		r, passed := solved(t, p), 0
		c := copied(r)
		numbers, bits := places(c.Sums), truths(c)
		all := 1
		for range numbers {
			all *= 5
		}
		for n := range all {
			for _, x := range numbers {
				*x = []int{0, 1, 2, 3, none}[n%5]
				n /= 5
			}
			for n := range 1 << len(bits) {
				for i, x := range bits {
					*x = n>>i&1 == 1
				}
				if checks(t, "any result", p, c, b) {
					passed++
				}
			}
		}
		if passed != 1 {
			t.Errorf("W8: %d results pass of\n%s", passed, told(p))
		}
	}
}

// Where passes end too early, what they led to does not pass, though its placement is just what its summaries lead to; nor does a solution that is not the least one.
func TestPlacementsOfOtherSummaries(t *testing.T) {
	early := 0
	for seed := range 400 {
		r := rand.New(rand.NewSource(int64(seed)))
		p := anyProgram(r, kinds[seed%len(kinds)])
		passes := makes(t, "any program", p)
		for n := range passes {
			sums, _ := gone(p, passes[:n])
			refuses(t, "too early", p, placed(p, sums), bytesOf(passes[:n]...))
			refuses(t, "too early", p, placed(p, sums), bytesOf(passes...))
			early++
		}
	}
	if early < 500 {
		t.Errorf("only %d certificates ended too early", early)
	}
	p := of(t, fn(1, 1, 2, "v1 = f0(v0);return v1"))
	for n := range 25 {
		sums := lowest(p)
		*places(sums)[0], *places(sums)[1] = []int{0, 1, 2, 3, none}[n%5], []int{0, 1, 2, 3, none}[n/5]
		if is, e := whole.Is(p, sums); e != api.OK || !is { // whatever it says of itself stays so
			t.Fatalf("%v is no solution: error %d", sums, e)
		}
		for many := range 5 {
			if b := bytesOf(make([]int, many)...); many == 0 && n == 24 {
				accepts(t, "the lowest summaries", p, placed(p, sums), b)
			} else {
				refuses(t, "another solution", p, placed(p, sums), b)
			}
		}
	}
}
