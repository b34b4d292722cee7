package coop_test

import (
	"math/rand"
	"slices"
	"testing"

	"fugue/coop"
)

// agrees: Run and the plain play of the same parts: the same picks, answer, questions and steps. It tells what it came to.
func agrees(t *testing.T, parts []part, script []int) ([]int, bool) {
	t.Helper()
	plain, l := bodies(parts)
	want, wantAll := plainRun(l, script)
	w, l := bodies(parts)
	got, all := coop.Run(l, script...)
	if all != wantAll || !slices.Equal(got, want) {
		t.Fatalf("P13.1: %v, script %v: %v, %v, want %v, %v", parts, script, got, all, want, wantAll)
	}
	if !slices.Equal(w.log, plain.log) {
		t.Fatalf("P13.1: %v, script %v: questions and steps %v, want %v", parts, script, w.log, plain.log)
	}
	count := make([]int, len(parts))
	for _, i := range got {
		count[i]++
	}
	if !slices.Equal(count, w.done) {
		t.Fatalf("P13.1: %v, script %v: picked %v, but these steps were done: %v", parts, script, got, w.done)
	}
	return got, all
}

// allScripts: those of so many numbers, each below the number of parts.
func allScripts(t *testing.T, length int, parts ...part) {
	t.Helper()
	script := make([]int, length)
	for {
		agrees(t, parts, script)
		i := 0
		for ; i < length && script[i] == len(parts)-1; i++ {
			script[i] = 0
		}
		if i == length {
			return
		}
		script[i]++
	}
}

func TestAllScriptsOfFewBodies(t *testing.T) {
	for length := range 8 {
		allScripts(t, length, part{steps: 3}, part{steps: 4})
		allScripts(t, length, part{steps: 3}, part{3, blinks, 0, 2})
		allScripts(t, length, part{2, waits, 1, 1}, part{2, asksOn, 1, 3}, part{steps: 2})
	}
	allScripts(t, 7, part{1, isAlways, 0, 0}, part{2, isAlways, 0, 0}, part{3, isAlways, 0, 0})
	allScripts(t, 5, part{2, behindOf, 1, 0}, part{2, behindOf, 2, 0}, part{steps: 1}, part{})
	allScripts(t, 6, part{3, waits, 1, 2}, part{3, waits, 2, 1}, part{2, blinks, 1, 3})
}

func TestAnyBodies(t *testing.T) {
	ended := map[bool]int{}
	for seed := range 12000 {
		r := rand.New(rand.NewSource(int64(seed)))
		l, all := agrees(t, anyParts(r, 1+r.Intn(7), 5), anyScript(r, 30))
		if len(l) > 3 {
			ended[all]++
		}
	}
	if ended[true] < 500 || ended[false] < 500 {
		t.Errorf("too few of a kind: %v", ended)
	}
	for seed := range 100 {
		r := rand.New(rand.NewSource(int64(seed)))
		agrees(t, anyParts(r, 50+r.Intn(50), 8), anyScript(r, 500))
	}
}

// The script's numbers count by their places alone: others of the same remainder by all numbers of bodies pick the same.
func TestNumbersOfTheSamePlaces(t *testing.T) {
	for seed := range 500 {
		r := rand.New(rand.NewSource(int64(seed)))
		parts, script := anyParts(r, 1+r.Intn(6), 5), anyScript(r, 40)
		others := slices.Clone(script)
		for i, k := range script {
			if others[i] = k - 60; k < 0 { // 60: of all numbers up to 6
				others[i] = k + 120
			}
		}
		one, _ := agrees(t, parts, script)
		if two, _ := agrees(t, parts, others); !slices.Equal(one, two) {
			t.Fatalf("P13.1: seed %d: the scripts %v and %v: %v and %v", seed, script, others, one, two)
		}
	}
}

// The same bodies' steps, the same script: the same answer.
func TestAgainTheSame(t *testing.T) {
	for seed := range 300 {
		r := rand.New(rand.NewSource(int64(seed)))
		parts, script := anyParts(r, 1+r.Intn(9), 6), anyScript(r, 40)
		one, _ := agrees(t, parts, script)
		for range 5 {
			if two, _ := agrees(t, parts, script); !slices.Equal(one, two) {
				t.Fatalf("R6: seed %d: %v and %v", seed, one, two)
			}
		}
	}
}

// If all are always ready, it is over behind all their steps, and behind the script's end nobody who has not ended waits for more picks than there are bodies.
func TestNobodyIsForgotten(t *testing.T) {
	for seed := range 500 {
		r := rand.New(rand.NewSource(int64(seed)))
		parts := make([]part, 1+r.Intn(12))
		sum := 0
		for i := range parts {
			parts[i] = part{steps: r.Intn(9), ready: []int{noReady, isAlways}[r.Intn(2)]}
			sum += parts[i].steps
		}
		script := anyScript(r, 40)
		l, all := agrees(t, parts, script)
		if !all || len(l) != sum {
			t.Fatalf("P13.1: %v, script %v: %d picks, %v", parts, script, len(l), all)
		}
		for i, p := range parts {
			gap, done := 0, 0
			for at, k := range l {
				if gap++; k == i || at < len(script) {
					gap = 0
				}
				if k == i {
					done++
				}
				if done < p.steps && gap >= len(parts) {
					t.Fatalf("P13.1: %v, script %v: %v: %d waits too long", parts, script, l, i)
				}
			}
		}
	}
}

func TestManyBodiesAndLongScripts(t *testing.T) {
	parts := make([]part, 3000)
	for i := range parts {
		parts[i] = part{steps: i % 3, ready: []int{noReady, isAlways}[i%2]}
	}
	r := rand.New(rand.NewSource(3))
	agrees(t, parts, nil)
	agrees(t, parts, anyScript(r, 4000))
	agrees(t, []part{{steps: 50000}, {50000, blinks, 0, 2}}, times(70000, -1, edges...))
	few := make([]part, 64)
	for i := range few {
		few[i] = part{300, behindOf, (i + 1) % 64, 0}
	}
	agrees(t, few, anyScript(r, 20000))
}

func TestVeryManyBodies(t *testing.T) {
	const many = 20000
	clean := noneLeft(t)
	for _, script := range [][]int{nil, times(many, -1)} {
		l, all := coop.Run(allEnd(slices.Repeat([]int{1}, many)...), script...)
		if script != nil {
			slices.Reverse(l)
		}
		if !all || len(l) != many || l[0] != 0 || l[many-1] != many-1 || !slices.IsSorted(l) {
			t.Errorf("P13.1: of %d bodies %d were picked, or in another order, %v", many, len(l), all)
		}
	}
	clean()
}
