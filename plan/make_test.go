package plan_test

import (
	"math"
	"testing"

	"fugue/api"
)

func TestBudgetsBelowZero(t *testing.T) {
	p := ladder(t)
	for _, below := range []int{math.MinInt, math.MinInt + 1, -1 << 32, -4096, -2, -1, 0} {
		for _, other := range []int{math.MinInt, -1, 0, 1, 100, math.MaxInt} {
			made(t, "a budget below 0", p, below, other, nil)
			made(t, "a budget below 0", p, other, below, nil)
		}
	}
}

func TestEndsOfTheNumbers(t *testing.T) {
	p := ladder(t)
	every := moves(0, 1, 0, 2, 0, 3, 0, 4, 1, 0, 1, 1)
	for _, callee := range []int{3, 4, 4096, 1 << 32, 1<<32 + 1, math.MaxInt - 1, math.MaxInt} {
		for _, function := range []int{100, 4096, 4097, 1 << 32, 1<<32 + 1, math.MaxInt - 1, math.MaxInt} {
			made(t, "great budgets", p, callee, function, every)
		}
	}
}

// How many instructions a callee has, as it is, its Returns one each.
func TestCalleesBudget(t *testing.T) {
	p := of(t,
		fn(0, 0, 1, "f4();f3();v0 = f2();f1();return"),
		fn(0, 0, 0, "return"),
		fn(0, 1, 9, "v0 = int 1;return v0"),
		fn(0, 0, 0, "f1();f1();return"),
		fn(0, 0, 2, "v0 = f2();v1 = f2();if v0 jump 0;return"))
	for callee, want := range [][]api.Move{
		nil,
		moves(0, 3, 3, 0, 3, 1),
		moves(0, 2, 0, 3, 3, 0, 3, 1, 4, 0, 4, 1),
		moves(0, 1, 0, 2, 0, 3, 3, 0, 3, 1, 4, 0, 4, 1),
		moves(0, 0, 0, 1, 0, 2, 0, 3, 3, 0, 3, 1, 4, 0, 4, 1),
		moves(0, 0, 0, 1, 0, 2, 0, 3, 3, 0, 3, 1, 4, 0, 4, 1),
	} {
		made(t, "the callee's budget", p, callee, math.MaxInt, want)
	}
}

// A call that is left out, and a later one that still fits.
func TestLeftOut(t *testing.T) {
	p := of(t,
		fn(0, 0, 0, "f1();f2();f1();f2();f3();return"), // 6
		fn(0, 0, 3, "return"),                          // 3 more
		fn(0, 0, 1, "return"),                          // 1 more
		fn(0, 0, 2, "v0 = &v1;return"))
	made(t, "left out", p, 10, 6, nil)
	made(t, "left out", p, 10, 7, moves(0, 1))
	made(t, "left out", p, 10, 8, moves(0, 1, 0, 3))
	made(t, "left out", p, 10, 9, moves(0, 0))
	made(t, "left out", p, 10, 10, moves(0, 0, 0, 1))
	made(t, "left out", p, 10, 11, moves(0, 0, 0, 1, 0, 3))
	made(t, "left out", p, 10, 12, moves(0, 0, 0, 1, 0, 3))
	made(t, "left out", p, 10, 13, moves(0, 0, 0, 1, 0, 2))
	made(t, "left out", p, 10, 14, moves(0, 0, 0, 1, 0, 2, 0, 3))
}

// A function that is beyond the budget as it is gets none of its calls named, the others do.
func TestLongerThanTheBudget(t *testing.T) {
	p := of(t,
		fn(0, 0, 0, "f2();jump 0;jump 0;jump 0;return"),
		fn(0, 0, 0, "f2();return"),
		fn(0, 0, 0, "return"))
	made(t, "a long one", p, 1, 4, moves(1, 0))
	made(t, "a long one", p, 1, 5, moves(0, 0, 1, 0))
	made(t, "a long one", p, 1, 2, moves(1, 0))
	made(t, "a long one", p, 1, 1, nil)
}
