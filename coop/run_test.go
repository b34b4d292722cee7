package coop_test

import (
	"slices"
	"testing"

	"fugue/coop"
)

func TestExamplesOfTheChapter(t *testing.T) {
	runs(t, "1, 2, 1 steps", allEnd(1, 2, 1), []int{1, 1, 1}, []int{1, 1, 2, 0}, true)
	runs(t, "1, 2, 1 steps", allEnd(1, 2, 1), nil, []int{0, 1, 2, 1}, true)
	runs(t, "1, 2, 1 steps", allEnd(1, 2, 1), []int{-1}, []int{2, 0, 1, 1}, true)
	runs(t, "no bodies", nil, nil, nil, true)
	runs(t, "never ready", []coop.Body{{always, never}}, nil, nil, false)
	runs(t, "a nil Step", []coop.Body{{}}, nil, nil, true)
}

// A list or a script without elements is like one that is nil; numbers without bodies pick nobody.
func TestNoBodies(t *testing.T) {
	for _, script := range [][]int{nil, {}, {0}, {1, 2, 3}, {-1}, edges} {
		runs(t, "no bodies, nil", nil, script, nil, true)
		runs(t, "no bodies, empty", []coop.Body{}, script, nil, true)
	}
	runs(t, "an empty script", allEnd(1, 2), []int{}, []int{0, 1, 1}, true)
}

func TestOneBody(t *testing.T) {
	for _, script := range [][]int{nil, {0}, {-1}, {5, -5}, edges} {
		for n := range 8 {
			runs(t, "one body", allEnd(n), script, make([]int, n), true)
		}
	}
}

// A body that answers false at once does one step and no more, wherever it stands.
func TestStepsThatEndAtOnce(t *testing.T) {
	for many := 1; many < 9; many++ {
		var rising, falling []int
		for i := range many {
			rising, falling = append(rising, i), append(falling, many-1-i)
		}
		one := slices.Repeat([]int{1}, many)
		runs(t, "one step each", allEnd(one...), nil, rising, true)
		runs(t, "one step each", allEnd(one...), times(many, 0), rising, true)
		runs(t, "one step each", allEnd(one...), times(many, -1), falling, true)
	}
}

// Bodies without a Step are nobody's place, and have ended from the beginning, ready or not.
func TestNoSteps(t *testing.T) {
	for _, ready := range []func() bool{nil, never, always} {
		none := coop.Body{Ready: ready}
		runs(t, "no Steps", []coop.Body{none}, []int{0, 1}, nil, true)
		runs(t, "no Steps", []coop.Body{none, none, none}, nil, nil, true)
		runs(t, "some without", []coop.Body{none, ends(2), none, ends(2), none}, nil, []int{1, 3, 1, 3}, true)
		runs(t, "some without", []coop.Body{none, ends(2), none, ends(2), none}, []int{1, 1, -1, -1}, []int{3, 3, 1, 1}, true)
		runs(t, "one never ready", []coop.Body{none, {always, never}, ends(1)}, nil, []int{2}, false)
	}
}

// The place k mod c, towards the lower, of every number at the ends and of every c.
func TestPlacesOfAllNumbers(t *testing.T) {
	for c := 1; c <= 9; c++ {
		for _, k := range edges {
			first := plainMod(k, c)
			want := []int{first}
			for i := range c - 1 {
				want = append(want, (first+1+i)%c)
			}
			runs(t, "one step each", allEnd(slices.Repeat([]int{1}, c)...), []int{k}, want, true)
		}
	}
}

// The place counts among those that can go on, not among all.
func TestPlacesAmongThoseThatCan(t *testing.T) {
	wait := coop.Body{Step: always, Ready: never}
	l := func() []coop.Body { return []coop.Body{wait, ends(1), ends(0), wait, ends(2), ends(1), wait} }
	runs(t, "some wait", l(), []int{1, 1, 1, 0}, []int{4, 4, 5, 1}, false)
	runs(t, "some wait", l(), []int{3, 2, 1, 0}, []int{1, 4, 5, 4}, false)
	runs(t, "some wait", l(), []int{-1, -1}, []int{5, 4, 1, 4}, false)
	runs(t, "some wait", l(), nil, []int{1, 4, 5, 4}, false)
}

// Behind the script's end it goes round behind the one that was picked last, by the script too, though that one has ended.
func TestGoingRound(t *testing.T) {
	runs(t, "3 bodies", allEnd(3, 3, 3), nil, []int{0, 1, 2, 0, 1, 2, 0, 1, 2}, true)
	runs(t, "3 bodies", allEnd(3, 3, 3), []int{1}, []int{1, 2, 0, 1, 2, 0, 1, 2, 0}, true)
	runs(t, "3 bodies", allEnd(3, 3, 3), []int{2, 2}, []int{2, 2, 0, 1, 2, 0, 1, 0, 1}, true)
	runs(t, "the last has ended", allEnd(1, 2, 1, 2), []int{2}, []int{2, 3, 0, 1, 3, 1}, true)
	runs(t, "the lowest goes on", allEnd(5, 1, 1), nil, []int{0, 1, 2, 0, 0, 0, 0}, true)
	runs(t, "the greatest goes on", allEnd(1, 1, 5), []int{2}, []int{2, 0, 1, 2, 2, 2, 2}, true)
}

// The script may be shorter and longer than what is needed.
func TestLengthsOfScripts(t *testing.T) {
	whole := []int{0, 1, 1, -1, 5, 7, 0, 0, 3}
	want := [][]int{
		{0, 1, 2, 0, 1, 2, 0, 1, 2},
		{0, 1, 2, 0, 1, 2, 0, 1, 2},
		{0, 1, 2, 0, 1, 2, 0, 1, 2},
		{0, 1, 1, 2, 0, 1, 2, 0, 2},
		{0, 1, 1, 2, 0, 1, 2, 0, 2},
		{0, 1, 1, 2, 2, 0, 1, 2, 0},
		{0, 1, 1, 2, 2, 1, 2, 0, 0},
		{0, 1, 1, 2, 2, 1, 0, 2, 0},
		{0, 1, 1, 2, 2, 1, 0, 0, 2},
		{0, 1, 1, 2, 2, 1, 0, 0, 2},
	}
	for n := range len(whole) + 1 {
		runs(t, "3 of 3 steps", allEnd(3, 3, 3), whole[:n], want[n], true)
	}
	for more := range 20 {
		runs(t, "3 of 3 steps", allEnd(3, 3, 3), append(slices.Clone(whole), edges[:more]...), want[9], true)
	}
}

// Two that give each other the turn: nobody goes on whose turn it isn't, whatever the script says.
func TestTurns(t *testing.T) {
	for _, script := range [][]int{nil, {0}, {1}, {1, 1, 1, 0, 0}, edges} {
		turn := 0
		body := func(me, n int) coop.Body {
			return coop.Body{
				Step:  func() bool { turn = 1 - me; n--; return n > 0 },
				Ready: func() bool { return turn == me },
			}
		}
		runs(t, "by turns", []coop.Body{body(0, 3), body(1, 2)}, script, []int{0, 1, 0, 1, 0}, true)
		turn = 1
		runs(t, "the second waits", []coop.Body{body(0, 1), body(1, 3)}, script, []int{1, 0, 1}, false)
		turn = 2
		runs(t, "nobody's turn", []coop.Body{body(0, 1), body(1, 3)}, script, nil, false)
	}
}

// All wait for one another: at the beginning, and behind some steps.
func TestAllWait(t *testing.T) {
	for many := 1; many < 9; many++ {
		for _, script := range [][]int{nil, edges} {
			var free, stuck []part
			var want []int
			for i := range many {
				free = append(free, part{2, waits, (i + 1) % many, 1})
				stuck = append(stuck, part{3, blinks, 1, many + 1})
				want = append(want, i)
			}
			_, l := bodies(free)
			runs(t, "each waits for the next", l, script, nil, false)
			if script == nil {
				_, l = bodies(stuck)
				runs(t, "all wait behind some steps", l, nil, want, false)
			}
		}
	}
}

// Who panics when it is asked is not ready: Run itself does not panic (R1), and lets all go.
func TestReadyThatPanics(t *testing.T) {
	clean := noneLeft(t)
	wild := coop.Body{Step: always, Ready: func() bool { panic("wild") }}
	runs(t, "wild alone", []coop.Body{wild}, nil, nil, false)
	runs(t, "wild among others", []coop.Body{ends(2), wild, ends(1)}, []int{1}, []int{2, 0, 0}, false)
	tame := 0
	late := coop.Body{Step: never, Ready: func() bool {
		if tame++; tame < 3 {
			panic("not yet")
		}
		return true
	}}
	runs(t, "wild at first", []coop.Body{late, ends(3)}, nil, []int{1, 1, 0, 1}, true)
	clean()
}
