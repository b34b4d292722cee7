package weigh_test

import (
	"slices"
	"testing"

	"fugue/api"
	"fugue/weigh"
)

// sums: Plus of each pair of weights, written out: by the flow's derefs and the edge's.
func sums() [][]int {
	return [][]int{
		{-1, 0, 1, 2, 3, none},
		{-1, 0, 1, 2, 3, none},
		{0, 1, 2, 3, 3, none},
		{1, 2, 3, 3, 3, none},
		{2, 3, 3, 3, 3, none},
		{none, none, none, none, none, none},
	}
}

func TestPlusOfEachPair(t *testing.T) {
	for i, d := range weights() {
		for k, w := range weights() {
			if got := weigh.Plus(d, w); got != sums()[i][k] {
				t.Errorf("P6.1: Plus(%d, %d) = %d, want %d", d, w, got, sums()[i][k])
			}
		}
	}
}

func TestPlusOfStrangers(t *testing.T) {
	for _, s := range strangers() {
		for _, x := range slices.Concat(weights(), strangers()) {
			if weigh.Plus(s, x) != none || weigh.Plus(x, s) != none {
				t.Errorf("P6.1: Plus(%d, %d) = %d, Plus(%d, %d) = %d, want None", s, x, weigh.Plus(s, x), x, s, weigh.Plus(x, s))
			}
		}
	}
}

func TestMeetOfEachPair(t *testing.T) {
	for i, a := range weights() {
		for k, b := range weights() {
			if got, want := weigh.Meet(a, b), weights()[min(i, k)]; got != want {
				t.Errorf("P6.2: Meet(%d, %d) = %d, want %d", a, b, got, want)
			}
		}
	}
}

func TestMeetOfStrangers(t *testing.T) {
	for _, s := range strangers() {
		for _, a := range weights() {
			if weigh.Meet(s, a) != a || weigh.Meet(a, s) != a {
				t.Errorf("P6.2: Meet(%d, %d) = %d, Meet(%d, %d) = %d, want %d", s, a, weigh.Meet(s, a), a, s, weigh.Meet(a, s), a)
			}
		}
		for _, x := range strangers() {
			if got := weigh.Meet(s, x); got != none {
				t.Errorf("P6.2: Meet(%d, %d) = %d, want None", s, x, got)
			}
		}
	}
}

// The chapter's first example.
func TestWeightsOfTheChapter(t *testing.T) {
	for _, c := range [][3]int{{-1, 1, 1}, {0, 1, 1}, {1, -1, 0}, {-1, -1, -1}, {3, 3, 3}, {3, -1, 2}, {none, 0, none}, {4, 0, none}} {
		if got := weigh.Plus(c[0], c[1]); got != c[2] {
			t.Errorf("P6.1: Plus(%d, %d) = %d, want %d", c[0], c[1], got, c[2])
		}
	}
	for _, c := range [][3]int{{4, 7, none}, {4, 2, 2}, {-2, 3, 3}} {
		if got := weigh.Meet(c[0], c[1]); got != c[2] {
			t.Errorf("P6.2: Meet(%d, %d) = %d, want %d", c[0], c[1], got, c[2])
		}
	}
}

// What follows: Plus never falls as a number rises, and Meet may be taken ahead of Plus or behind it.
func TestPlusRises(t *testing.T) {
	for _, a := range weights() {
		for _, b := range weights() {
			for _, w := range weights() {
				if a <= b && (weigh.Plus(a, w) > weigh.Plus(b, w) || weigh.Plus(w, a) > weigh.Plus(w, b)) {
					t.Errorf("P6.1: Plus falls from %d to %d, with %d", a, b, w)
				}
				if weigh.Plus(weigh.Meet(a, b), w) != weigh.Meet(weigh.Plus(a, w), weigh.Plus(b, w)) {
					t.Errorf("P6.2: Meet(%d, %d), and %d added", a, b, w)
				}
			}
		}
	}
	if api.MaxDeref != 3 || weigh.Plus(weigh.Plus(0, -1), 1) != 1 || weigh.Plus(api.MaxDeref, -1) != api.MaxDeref-1 {
		t.Error("P6.1: ways are weighed from the root on, and K less one is K - 1")
	}
}
