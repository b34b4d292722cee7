package engine_test

import (
	"math/rand"
	"runtime"
	"slices"
	"strings"
	"testing"
	"time"

	"fugue/api"
	"fugue/engine"
)

// stacks: of all goroutines, each with what it does and who began it.
func stacks() []string {
	room := make([]byte, 1<<16)
	for {
		if n := runtime.Stack(room, true); n < len(room) {
			return strings.Split(string(room[:n]), "\n\n")
		}
		room = make([]byte, 2*len(room))
	}
}

// inside: the goroutines that are at work, or wait, in the code of the packages. Who began them is no matter: one whose work is over may not be quite gone.
func inside() []string {
	return slices.DeleteFunc(stacks(), func(s string) bool {
		return !slices.ContainsFunc(strings.Split(s, "\n"), func(line string) bool {
			return strings.HasPrefix(line, "fugue/engine.") || strings.HasPrefix(line, "fugue/crew.") || strings.HasPrefix(line, "fugue/coop.")
		})
	})
}

// noneLeft: from now on; the call tells whether goroutines are left that were not there.
func noneLeft(t *testing.T) func(what string) {
	t.Helper()
	before := runtime.NumGoroutine()
	return func(what string) {
		t.Helper()
		if l := inside(); len(l) > 0 {
			t.Fatalf("P15.2: %d goroutines are left behind %s: %s", len(l), what, l[0])
		}
		for range 2000 {
			if runtime.NumGoroutine() <= before {
				return
			}
			time.Sleep(time.Millisecond)
		}
		t.Fatalf("P15.2: %d goroutines are left behind %s", runtime.NumGoroutine()-before, what)
	}
}

func TestNoGoroutineIsLeft(t *testing.T) {
	clean := noneLeft(t)
	for seed := range 150 {
		r := rand.New(rand.NewSource(int64(seed)))
		b := encoded(t, anyProgram(r, 9, 7))
		for _, workers := range []int{1, 2, 5, 64, 0, 65} {
			engine.Free(b, workers)
			clean("Free")
			engine.Free(b[:len(b)-1], workers)
			clean("Free of no program")
			engine.Analyze(b, workers, anyScript(r, 30)...)
			clean("Analyze")
			engine.Analyze(b[:len(b)-1], workers, 1, 2)
			clean("Analyze of no program")
		}
	}
}

// Free runs with fewer processors than workers, and with one alone.
func TestFewProcessors(t *testing.T) {
	for _, many := range []int{1, 2} {
		was := runtime.GOMAXPROCS(many)
		within(t, func() {
			for _, p := range shapes() {
				b, want := encoded(t, p), plainBytes(p, least(t, p))
				for _, workers := range []int{1, 2, 3, 64} {
					if l, e, at := engine.Free(b, workers); e != api.OK || at != 0 || !slices.Equal(l, want) {
						t.Errorf("P15.3: %d processors, %d workers: error %d at %d", many, workers, e, at)
					}
				}
			}
		})
		runtime.GOMAXPROCS(was)
	}
}

// However often it runs free, the bytes are the same.
func TestFreeRunsAgainAndAgain(t *testing.T) {
	within(t, func() {
		for i, p := range shapes() {
			b, want := encoded(t, p), plainBytes(p, least(t, p))
			for n := range 150 {
				if l, e, at := engine.Free(b, 1+n%64); e != api.OK || at != 0 || !slices.Equal(l, want) {
					t.Errorf("P15.3: shape %d, %d workers: error %d at %d", i, 1+n%64, e, at)
					return
				}
			}
		}
	})
}

// Calls at one time know nothing of one another, though they are handed the same bytes and scripts.
func TestCallsAtOneTime(t *testing.T) {
	clean := noneLeft(t)
	type known struct {
		b    []byte
		runs api.Run
	}
	script := roomy(edges, mark)
	var l []known
	for _, p := range shapes() {
		b := roomy(encoded(t, p), 0x0f)
		l = append(l, known{b, engine.Analyze(b, 3, script...)})
	}
	together(t, 8, func(g int) {
		for i := range 3 * len(l) {
			x := l[(i+g)%len(l)]
			if b, e, at := engine.Free(x.b, 1+(i*g)%64); e != api.OK || at != 0 || !slices.Equal(b, x.runs.Bytes) {
				t.Errorf("R6: at one time with others, free: error %d at %d", e, at)
			}
			if r := engine.Analyze(x.b, 3, script...); r.Err != api.OK || r.Steps != x.runs.Steps || !slices.Equal(r.Bytes, x.runs.Bytes) {
				t.Errorf("R6: at one time with others: error %d at %d, %d steps, want %d", r.Err, r.Offset, r.Steps, x.runs.Steps)
			}
			if r := engine.Analyze(x.b[:len(x.b)-1], 3, script...); r.Err != api.ErrShort || r.Offset != len(x.b)-1 {
				t.Errorf("R6: at one time with others, cut: error %d at %d", r.Err, r.Offset)
			}
		}
	})
	clean("many calls")
}
