package engine_test

import (
	"math/rand"
	"slices"
	"testing"

	"fugue/api"
	"fugue/code"
	"fugue/engine"
)

const mark = -77 // stands in spare room of scripts

// roomy: the same list with spare room behind it, in which more stands.
func roomy[T any](l []T, more T) []T {
	return append(append(make([]T, 0, len(l)+20), l...), slices.Repeat([]T{more}, 20)...)[:len(l)]
}

func fill[T any](l []T, x T) {
	l = l[:cap(l)]
	for i := range l {
		l[i] = x
	}
}

// full: a list with its spare room, in new memory.
func full[T any](l []T) []T { return slices.Clone(l[:cap(l)]) }

// given: all that may be handed in, each list with spare room.
type given struct {
	b       []byte
	workers int
	script  []int
}

// anyGiven: a byte that would follow stands in the bytes' spare room.
func anyGiven(t *testing.T, r *rand.Rand) given {
	t.Helper()
	return given{roomy(encoded(t, anyProgram(r, 7, 9)), 0x0f), 1 + r.Intn(6), roomy(anyScript(r, 60), mark)}
}

func (g given) copied() given { return given{full(g.b), g.workers, full(g.script)} }

func (g given) same(o given) bool { return slices.Equal(g.b, o.b) && slices.Equal(g.script, o.script) }

func (g given) wipe() {
	fill(g.b, 0xee)
	fill(g.script, mark)
}

// ask: all answers that are lists.
func (g given) ask(t *testing.T) [][]byte {
	t.Helper()
	r := engine.Analyze(g.b, g.workers, g.script...)
	b, e, _ := engine.Free(g.b, g.workers)
	if r.Err != api.OK || e != api.OK || len(b) == 0 || len(r.Bytes) == 0 {
		t.Fatalf("P15.1: errors %d, %d", r.Err, e)
	}
	return [][]byte{r.Bytes, b}
}

func (g given) askWrong() {
	for _, workers := range []int{0, 65, g.workers} {
		for _, b := range [][]byte{g.b[:len(g.b)-1], g.b[:len(g.b)/2], g.b[:len(g.b)+1], g.b[1:]} {
			engine.Analyze(b, workers, g.script...)
			engine.Free(b, workers)
		}
	}
}

func TestArgumentsStay(t *testing.T) {
	for seed := range 200 {
		g := anyGiven(t, rand.New(rand.NewSource(int64(seed))))
		before := g.copied()
		g.ask(t)
		g.askWrong()
		if !g.copied().same(before) {
			t.Fatalf("P15.4: seed %d: an argument was changed", seed)
		}
	}
}

// Spare room of what is handed in says nothing.
func TestSpareRoomSaysNothing(t *testing.T) {
	for seed := range 100 {
		g := anyGiven(t, rand.New(rand.NewSource(int64(seed))))
		tight := given{slices.Clip(slices.Clone(g.b)), g.workers, slices.Clip(slices.Clone(g.script))}
		if !slices.EqualFunc(g.ask(t), tight.ask(t), slices.Equal) {
			t.Fatalf("R6: seed %d: spare room makes a difference", seed)
		}
		a, b := engine.Analyze(g.b, g.workers, g.script...), engine.Analyze(tight.b, g.workers, tight.script...)
		if a.Steps != b.Steps {
			t.Fatalf("R6: seed %d: spare room makes a difference: %d and %d steps", seed, a.Steps, b.Steps)
		}
	}
}

// Neither what becomes of the arguments nor what becomes of the other answers is seen in an answer, in its spare room neither.
func TestAnswersAreTheirOwn(t *testing.T) {
	for seed := range 150 {
		for keep := range 4 {
			g := anyGiven(t, rand.New(rand.NewSource(int64(seed))))
			answers := append(g.ask(t), g.ask(t)...)
			want := full(answers[keep])
			g.wipe()
			for i, a := range answers {
				if i != keep {
					fill(a, 0xdd)
				}
			}
			if !slices.Equal(full(answers[keep]), want) {
				t.Fatalf("P15.4: seed %d: the answer %d shares memory", seed, keep)
			}
		}
	}
}

// What becomes of an answer is not seen in the arguments, nor in what is answered later.
func TestAnswersThatAreChanged(t *testing.T) {
	for seed := range 150 {
		g := anyGiven(t, rand.New(rand.NewSource(int64(seed))))
		before := g.copied()
		answers := g.ask(t)
		want := slices.Clone(answers[0])
		for _, a := range answers {
			fill(a, 0xdd)
		}
		if !g.copied().same(before) {
			t.Fatalf("P15.4: seed %d: an answer shares memory with an argument", seed)
		}
		for _, a := range g.ask(t) {
			if !slices.Equal(a, want) {
				t.Fatalf("P15.4: seed %d: a changed answer is seen in a later one", seed)
			}
		}
	}
}

// Nothing is kept of one call that is seen in the next, whatever came between.
func TestNothingIsKept(t *testing.T) {
	r := rand.New(rand.NewSource(4))
	for range 100 {
		g, other := anyGiven(t, r), anyGiven(t, r)
		first := engine.Analyze(g.b, g.workers, g.script...)
		other.ask(t)
		other.askWrong()
		copy(other.b[:cap(other.b)], g.b[:min(len(g.b), cap(other.b))])
		engine.Analyze(other.b, other.workers, other.script...)
		again := engine.Analyze(g.b, g.workers, g.script...)
		if again.Err != first.Err || again.Steps != first.Steps || !slices.Equal(again.Bytes, first.Bytes) {
			t.Fatalf("R6: asked again: %+v, at first %+v", again, first)
		}
	}
}

// The bytes in the same memory, with others in it than before, are other bytes.
func TestMemoryUsedAgain(t *testing.T) {
	room := make([]byte, 1<<12)
	for seed := range 200 {
		r := rand.New(rand.NewSource(int64(seed)))
		p := anyProgram(r, 4, 6)
		b := room[:copy(room, encoded(t, p))]
		analyzed(t, "memory used again", b, 1+r.Intn(3), nil, plainBytes(p, least(t, p)))
		if r.Intn(2) == 0 {
			b[r.Intn(len(b))] ^= 1
			if _, e, at := code.Decode(b); e != api.OK {
				refused(t, "memory used again", b, 1, e, at)
			}
		}
	}
}
