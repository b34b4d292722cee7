package calls_test

import (
	"runtime/debug"
	"slices"
	"testing"

	"fugue/api"
)

const most = api.MaxFuncs

// inLittleStack: a test in which recursion over all functions would not fit.
func inLittleStack(t *testing.T) {
	was := debug.SetMaxStack(1 << 20)
	t.Cleanup(func() { debug.SetMaxStack(was) })
}

// listsBy: by function what a rule says it calls.
func listsBy(rule func(f int) []int) [][]int {
	lists := make([][]int, most)
	for f := range lists {
		lists[f] = rule(f)
	}
	return lists
}

// each: one number alone a list.
func each(n int, number func(i int) int) [][]int {
	lists := make([][]int, n)
	for i := range lists {
		lists[i] = []int{number(i)}
	}
	return lists
}

func itself(i int) int { return i }

func TestAChainOfAllFunctions(t *testing.T) {
	inLittleStack(t)
	before := each(most, func(c int) int { return c - 1 })
	before[0] = nil
	up := listsBy(func(f int) []int {
		if f+1 < most {
			return []int{f + 1}
		}
		return nil
	})
	tells(t, "P5.3: a chain that goes up", program(up...), each(most, func(c int) int { return most - 1 - c }), before)
	down := listsBy(func(f int) []int {
		if f > 0 {
			return []int{f - 1}
		}
		return nil
	})
	tells(t, "P5.3: a chain that goes down", program(down...), each(most, itself), before)
	to := func(f int) int { return (f*32768 + 7) % most } // 32768 * 2 is 1 more than most: each number once
	at := make([]int, most)
	for f := range at {
		at[to(f)] = f
	}
	if !rising(slices.Sorted(slices.Values(at))) {
		t.Fatal("a test's numbers are not right")
	}
	mixed := renumbered(up, at)
	tells(t, "P5.3: a chain that goes here and there", program(mixed...), each(most, func(c int) int { return at[most-1-c] }), before)
}

func TestARingOfAllFunctions(t *testing.T) {
	inLittleStack(t)
	all := make([]int, most)
	for f := range all {
		all[f] = f
	}
	for what, step := range map[string]int{"up": 1, "down": most - 1, "here and there": 32768} {
		ring := listsBy(func(f int) []int { return []int{(f + step) % most} })
		tells(t, "P5.3: a ring that goes "+what, program(ring...), [][]int{all}, [][]int{nil})
	}
	both := listsBy(func(f int) []int { return []int{(f + 1) % most, f, (f + most - 1) % most} })
	tells(t, "P5.3: a ring that goes both ways", program(both...), [][]int{all}, [][]int{nil})
	tail := listsBy(func(f int) []int { return []int{min(f+1, most-1), f / 2} })
	tells(t, "P5.3: rings within rings", program(tail...), [][]int{all}, [][]int{nil})
}

func TestManyAlike(t *testing.T) {
	inLittleStack(t)
	none := listsBy(func(int) []int { return nil })
	tells(t, "P5.3: none calls another", program(none...), each(most, itself), make([][]int, most))
	star := listsBy(func(f int) []int {
		if f < most-1 {
			return []int{most - 1}
		}
		return nil
	})
	zeros := each(most, func(int) int { return 0 })
	zeros[0] = nil
	tells(t, "P5.3: all call one", program(star...), each(most, func(c int) int { return (c + most - 1) % most }), zeros)
	pairs := listsBy(func(f int) []int { return []int{min(f^1, most-1), min(f|1+1, most-1)} })
	if g := graph(t, program(pairs...)); g.Len() != (most+1)/2 || g.Of(most-1) != 0 || !slices.Equal(g.Members(g.Len()-1), []int{0, 1}) {
		t.Errorf("P5.3: a chain of pairs has %d components, the last of them %v", g.Len(), g.Members(g.Len()-1))
	}
}

// One that calls as many as it can, and many that all call the same ones.
func TestManyCalls(t *testing.T) {
	const wide = api.MaxCode - 1
	var callees []int
	for f := range wide {
		callees = append(callees, wide-1-f)
	}
	var lists, want [][]int
	for range wide {
		lists, want = append(lists, nil), append(want, nil)
	}
	rest := slices.Sorted(slices.Values(callees))
	for range 200 {
		lists, want = append(lists, callees), append(want, rest)
	}
	tells(t, "P5.3: many callees", program(lists...), each(len(lists), itself), want)
}
