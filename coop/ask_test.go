package coop_test

import (
	"slices"
	"testing"

	"fugue/coop"
)

// asked: the questions and steps that these parts see.
func asked(t *testing.T, parts []part, script []int, want ...note) {
	t.Helper()
	w, l := bodies(parts)
	coop.Run(l, script...)
	if !slices.Equal(w.log, want) {
		t.Errorf("P13.1: %v, script %v: %v, want %v", parts, script, w.log, want)
	}
}

func ask(i int) note { return note{true, i} }

func step(i int) note { return note{false, i} }

// All that have not ended are asked in rising order, ahead of each pick, the first and the one that finds nobody.
func TestWhoIsAsked(t *testing.T) {
	three := []part{{1, isAlways, 0, 0}, {2, isAlways, 0, 0}, {1, isAlways, 0, 0}}
	asked(t, three, nil,
		ask(0), ask(1), ask(2), step(0), ask(1), ask(2), step(1), ask(1), ask(2), step(2), ask(1), step(1))
	asked(t, three, []int{-1, 1, 1},
		ask(0), ask(1), ask(2), step(2), ask(0), ask(1), step(1), ask(0), ask(1), step(1), ask(0), step(0))
	asked(t, []part{{1, isNever, 0, 0}, {1, isAlways, 0, 0}, {1, isNever, 0, 0}}, []int{0, 0, 0},
		ask(0), ask(1), ask(2), step(1), ask(0), ask(2))
	asked(t, []part{{1, isNever, 0, 0}, {2, isNever, 0, 0}}, nil, ask(0), ask(1))
}

// Nobody is asked who has no Step, ready or not; who is alone, or stands behind the one that is picked, is asked all the same.
func TestWhoIsNotAsked(t *testing.T) {
	asked(t, []part{{0, isAlways, 0, 0}, {0, isNever, 0, 0}}, []int{1})
	asked(t, []part{{0, isAlways, 0, 0}, {2, noReady, 0, 0}, {0, isNever, 0, 0}}, nil, step(1), step(1))
	asked(t, []part{{1, noReady, 0, 0}, {1, isAlways, 0, 0}}, []int{0}, ask(1), step(0), ask(1), step(1))
	asked(t, []part{{2, isAlways, 0, 0}}, []int{0}, ask(0), step(0), ask(0), step(0))
}

// What a Ready answers is taken as it answered in this round, once for each pick.
func TestAskedOnceForEachPick(t *testing.T) {
	questions := 0
	odd := coop.Body{Step: always, Ready: func() bool { questions++; return questions%2 == 0 && questions < 9 }}
	l, all := coop.Run([]coop.Body{odd, ends(9)}, times(9, 0)...)
	if want := []int{1, 0, 1, 0, 1, 0, 1, 0, 1, 1, 1, 1, 1}; all || !slices.Equal(l, want) || questions != len(want)+1 {
		t.Errorf("P13.1: %v, %v behind %d questions, want %v, false", l, all, questions, want)
	}
}

// One that has ended is asked nothing and does nothing any more, though its Ready and Step would go on answering true.
func TestEndedIsEnded(t *testing.T) {
	steps, questions := 0, 0
	short := coop.Body{
		Step:  func() bool { steps++; return steps != 2 },
		Ready: func() bool { questions++; return true },
	}
	l, all := coop.Run([]coop.Body{short, ends(5)}, 0, 0, 0, 0)
	if !all || !slices.Equal(l, []int{0, 0, 1, 1, 1, 1, 1}) || steps != 2 || questions != 2 {
		t.Errorf("P13.1: %v, %v: %d steps, %d questions", l, all, steps, questions)
	}
}
