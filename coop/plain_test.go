package coop_test

import (
	"math/rand"
	"slices"

	"fugue/coop"
)

// How a part of a world answers whether it is ready.
const (
	noReady  = iota // its Ready is nil
	isNever         // false
	isAlways        // true
	waits           // once the body a has done b steps
	blinks          // unless a plus the number of all steps is a multiple of b
	behindOf        // while it has done no more steps than the body a
	asksOn          // unless a plus the number of all questions is a multiple of b
	readies
)

// part: a body written down: how many steps it does (0: its Step is nil), and when it is ready.
type part struct {
	steps, ready, a, b int
}

// world: bodies made of parts, what they do to one another, and all that they were asked for.
type world struct {
	parts []part
	done  []int // by body: its steps
	steps int
	asked int
	log   []note
}

// note: a question (asking) or a step of a body.
type note struct {
	asking bool
	body   int
}

// bodies: over a fresh world.
func bodies(parts []part) (*world, []coop.Body) {
	w := &world{parts: parts, done: make([]int, len(parts))}
	l := make([]coop.Body, len(parts))
	for i, p := range parts {
		if p.steps > 0 {
			l[i].Step = func() bool { return w.step(i) }
		}
		if p.ready != noReady {
			l[i].Ready = func() bool { return w.isReady(i) }
		}
	}
	return w, l
}

func (w *world) step(i int) bool {
	w.log = append(w.log, note{false, i})
	w.steps++
	w.done[i]++
	return w.done[i] < w.parts[i].steps
}

func (w *world) isReady(i int) bool {
	w.log = append(w.log, note{true, i})
	w.asked++
	p := w.parts[i]
	switch p.ready {
	case isAlways:
		return true
	case waits:
		return w.done[p.a] >= p.b
	case blinks:
		return (w.steps+p.a)%p.b != 0
	case behindOf:
		return w.done[i] <= w.done[p.a]
	case asksOn:
		return (w.asked+p.a)%p.b != 0
	}
	return false
}

// plainRun: the promise's words, without goroutines.
func plainRun(l []coop.Body, script []int) ([]int, bool) {
	ended := make([]bool, len(l))
	for i, b := range l {
		ended[i] = b.Step == nil
	}
	var picked []int
	last := -1
	for {
		var able []int
		for i, b := range l {
			if !ended[i] && (b.Ready == nil || b.Ready()) {
				able = append(able, i)
			}
		}
		if len(able) == 0 {
			return picked, !slices.Contains(ended, false)
		}
		if len(script) > 0 {
			last, script = able[plainMod(script[0], len(able))], script[1:]
		} else {
			for last = (last + 1) % len(l); !slices.Contains(able, last); {
				last = (last + 1) % len(l)
			}
		}
		picked = append(picked, last)
		ended[last] = !l[last].Step()
	}
}

// anyParts: bodies that wait for one another, for what changes, for nothing.
func anyParts(r *rand.Rand, many, steps int) []part {
	l := make([]part, many)
	for i := range l {
		l[i] = part{r.Intn(steps + 1), r.Intn(readies), r.Intn(many), r.Intn(steps + 1)}
		switch l[i].ready {
		case isNever: // seldom: else few get on
			l[i].ready = []int{noReady, noReady, isNever}[r.Intn(3)]
		case blinks, asksOn:
			l[i].b += 2
		}
	}
	return l
}
