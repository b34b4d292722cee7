package incr_test

import (
	"math"
	"slices"
	"testing"

	"fugue/api"
)

// eachList: all lists of so many numbers, from the one up to the other.
func eachList(many, from, to int, do func(l []int)) {
	l := slices.Repeat([]int{from}, many)
	for {
		do(l)
		i := 0
		for ; i < many && l[i] == to; i++ {
			l[i] = from
		}
		if i == many {
			return
		}
		l[i]++
	}
}

// mayBe: the chapter's words: none is below 0, none stands there twice, and those that are no functions' numbers are, in order, the next ones.
func mayBe(at []int, funcs int) bool {
	l := slices.Sorted(slices.Values(at))
	for i, n := range l {
		if n < 0 || i > 0 && l[i-1] == n {
			return false
		}
	}
	next := funcs
	for _, n := range l {
		if n < funcs {
			continue
		}
		if n != next {
			return false
		}
		next++
	}
	return true
}

// free: so many functions of which no two are the same, and none calls another.
func free(t *testing.T, many int) []api.Func {
	t.Helper()
	var l []api.Func
	for i := range many {
		f := one(t, "v1 = int 0;return v0")
		f.Code[0].N = i
		l = append(l, f)
	}
	return l
}

// All short lists of numbers: they are refused just where the words say so; else each function is at its number, and each is a component by itself.
func TestAllNumbers(t *testing.T) {
	good, bad := 0, 0
	for _, funcs := range []int{1, 3} {
		for many := range 5 {
			eachList(many, -1, funcs+3, func(at []int) {
				s := begun(t, api.Program{Funcs: free(t, funcs)})
				fs := free(t, many)
				if !mayBe(at, funcs) {
					bad++
					refuses(t, "numbers that may not be", s, at, fs, api.ErrArg)
					return
				}
				good++
				var want [][]int
				for _, n := range slices.Sorted(slices.Values(at)) {
					want = append(want, []int{n})
				}
				solves(t, "numbers that may be", s, at, fs, want...)
			})
		}
	}
	if good < 100 || bad < 1000 {
		t.Errorf("only %d lists may be, only %d may not", good, bad)
	}
}

// Lists of different lengths, whatever stands in them.
func TestLengths(t *testing.T) {
	s := begun(t, api.Program{Funcs: free(t, 3)})
	for at := range 5 {
		for fs := range 5 {
			if at != fs {
				refuses(t, "lists of different lengths", s, []int{0, 1, 2, 3}[:at], free(t, fs), api.ErrArg)
			}
		}
	}
	refuses(t, "a wrong function too many", s, []int{0}, []api.Func{one(t, "return v0"), {}}, api.ErrArg)
	refuses(t, "a wrong function and a number too many", s, []int{0, 1}, []api.Func{{}}, api.ErrArg)
}

func TestFarNumbers(t *testing.T) {
	s := begun(t, api.Program{Funcs: free(t, 3)})
	for _, n := range []int{math.MinInt, math.MinInt + 1, -1 << 32, -4, -3, -2, -1, 5, 6, 255, 65535, 65536, 1 << 32, 1 << 62, math.MaxInt - 3, math.MaxInt - 1, math.MaxInt} {
		for _, at := range [][]int{{n}, {n, 3}, {3, n}, {0, n}, {n, n}, {2, n, 3}} {
			refuses(t, "a far number", s, at, free(t, len(at)), api.ErrArg)
		}
	}
	refuses(t, "one left out", s, []int{4}, free(t, 1), api.ErrArg)
	refuses(t, "one left out", s, []int{5, 3}, free(t, 2), api.ErrArg)
	solves(t, "the next ones", s, []int{5, 3, 4}, free(t, 3), []int{3}, []int{4}, []int{5})
	refuses(t, "one left out behind the new ones", s, []int{7}, free(t, 1), api.ErrArg)
	solves(t, "the next one behind the new ones", s, []int{6, 3}, free(t, 2), []int{3}, []int{6})
}

// The right new numbers in every order, among old ones.
func TestEveryOrder(t *testing.T) {
	eachList(5, 0, 4, func(order []int) {
		if !mayBe(order, 5) {
			return
		}
		at := make([]int, 5)
		for i, k := range order {
			at[i] = []int{1, 3, 4, 5, 6}[k]
		}
		s := begun(t, api.Program{Funcs: free(t, 3)})
		solves(t, "every order", s, at, free(t, 5), []int{1}, []int{3}, []int{4}, []int{5}, []int{6})
	})
}

// Numbers that may not be count ahead of functions that are not right.
func TestNumbersAheadOfFunctions(t *testing.T) {
	s := begun(t, api.Program{Funcs: free(t, 3)})
	wrong := api.Func{Vars: -1}
	for _, at := range [][]int{{-1}, {4}, {0, 0}, {3, 3}, {4, 5}, {math.MaxInt}} {
		refuses(t, "all is wrong", s, at, slices.Repeat([]api.Func{wrong}, len(at)), api.ErrArg)
	}
	refuses(t, "the function alone is wrong", s, []int{3}, []api.Func{wrong}, api.ErrHead)
}
