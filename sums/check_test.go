package sums_test

import (
	"math"
	"testing"

	"fugue/api"
)

func TestCheckOfTheExample(t *testing.T) {
	f, s := pair()
	checks(t, "the example", f, s, api.OK)
	checks(t, "Heap 0 alone", f, sum([]int{0}, []int{2}, []int{none}), api.ErrSummary)
	f.Params = 9
	checks(t, "Params 9", f, s, api.ErrArg)
}

// Each shape at its first and last number, and one beyond each end, with a summary that would be right for it.
func TestShapes(t *testing.T) {
	for _, params := range []int{math.MinInt, -1, 0, 1, 7, 8, 9, math.MaxInt} {
		for _, results := range []int{math.MinInt, -1, 0, 1, 3, 4, 5, math.MaxInt} {
			f := api.Func{Params: params, Results: results}
			small := api.Func{Params: min(max(params, 0), 9), Results: min(max(results, 0), 5)}
			want := api.OK
			if params < 0 || params > 8 || results < 0 || results > 4 {
				want = api.ErrArg
			}
			checks(t, "a shape", f, every(small, 1), want)
			if want == api.OK {
				want = api.ErrSummary
			}
			checks(t, "a shape with a summary of no function", f, sum([]int{7}, nil, nil), want)
			notEncoded(t, "a shape with a summary of no function", []api.Func{f}, []api.Summary{sum([]int{7}, nil, nil)}, want)
			notDecoded(t, "a shape with a byte of no summary", []api.Func{f}, []byte{7}, want)
		}
	}
}

// Nothing of a function but its parameters' and results' number is looked at.
func TestNothingElseIsLookedAt(t *testing.T) {
	_, s := pair()
	for _, f := range []api.Func{
		{Params: 2, Results: 1},
		{Params: 2, Results: 1, Vars: -5},
		{Params: 2, Results: 1, Vars: 1 << 40},
		{Params: 2, Results: 1, Vars: 2, Code: []api.Instr{{Op: 99, Args: []int{-1}}}},
	} {
		checks(t, "another function of that shape", f, s, api.OK)
		are(t, "another function of that shape", []api.Func{f}, []api.Summary{s}, []byte{0, 2, 9, 9})
	}
}

func TestListsOfAnotherLength(t *testing.T) {
	f, _ := pair()
	for _, c := range []struct {
		what string
		s    api.Summary
	}{
		{"nothing", api.Summary{}},
		{"no Result", sum([]int{0, 0})},
		{"no Heap", sum(nil, []int{0}, []int{0})},
		{"a Heap too short", sum([]int{0}, []int{0}, []int{0})},
		{"a Heap too long", sum([]int{0, 0, 0}, []int{0}, []int{0})},
		{"a Result too short", sum([]int{0, 0}, []int{0})},
		{"a Result too long", sum([]int{0, 0}, []int{0}, []int{0}, []int{0})},
		{"a first list too short", sum([]int{0, 0}, nil, []int{0})},
		{"a first list too long", sum([]int{0, 0}, []int{0, 0}, []int{0})},
		{"a last list too short", sum([]int{0, 0}, []int{0}, []int{})},
		{"a last list too long", sum([]int{0, 0}, []int{0}, []int{0, 0})},
		{"as many numbers, elsewhere", sum([]int{0, 0}, []int{0, 0}, nil)},
		{"one parameter less", sum([]int{0}, []int{0})},
		{"one parameter more", sum([]int{0, 0, 0}, []int{0}, []int{0}, []int{0})},
	} {
		checks(t, c.what, f, c.s, api.ErrSummary)
		notEncoded(t, c.what, []api.Func{f}, []api.Summary{c.s}, api.ErrSummary)
		apart(t, c.what, c.s, every(f, 0))
	}
}

// Each place of a summary with each number.
func TestEachNumber(t *testing.T) {
	f := api.Func{Params: 2, Results: 2}
	for at := range places(every(f, 0)) {
		for n := -3; n <= 12; n++ {
			s := every(f, 0)
			*places(s)[at] = n
			if n >= 0 && n <= 3 || n == none {
				checks(t, "a number that may be", f, s, api.OK)
				continue
			}
			checks(t, "a number that may not be", f, s, api.ErrSummary)
			notEncoded(t, "a number that may not be", []api.Func{f}, []api.Summary{s}, api.ErrSummary)
			apart(t, "a number that may not be", s, every(f, 3))
			apart(t, "a number that may not be", s, every(f, none))
			apart(t, "a number that may not be, twice", s, s)
		}
		for _, n := range []int{math.MinInt, math.MinInt + 9, 256, 256 + 9, 1 << 32, math.MaxInt} {
			s := every(f, 0)
			*places(s)[at] = n
			checks(t, "a number far off", f, s, api.ErrSummary)
			notEncoded(t, "a number far off", []api.Func{f}, []api.Summary{s}, api.ErrSummary)
			apart(t, "a number far off", s, every(f, none))
		}
	}
}

// A list that is nil and one without elements are the same.
func TestNoLists(t *testing.T) {
	for _, s := range []api.Summary{{}, {Heap: []int{}}, {Result: [][]int{}}, {Heap: []int{}, Result: [][]int{}}} {
		checks(t, "no parameters", api.Func{Results: 4}, s, api.OK)
		checks(t, "no parameters", api.Func{Params: 1}, s, api.ErrSummary)
		above(t, "no parameters", s, api.Summary{}, true)
		above(t, "no parameters", api.Summary{}, s, true)
		meets(t, "no parameters", s, api.Summary{}, api.Summary{})
	}
	for _, s := range []api.Summary{sum([]int{2}, nil), sum([]int{2}, []int{})} {
		checks(t, "no results", api.Func{Params: 1}, s, api.OK)
		checks(t, "no results", api.Func{Params: 1, Results: 1}, s, api.ErrSummary)
		above(t, "no results", s, sum([]int{2}, nil), true)
		meets(t, "no results", s, sum([]int{1}, []int{}), sum([]int{1}, nil))
	}
}
