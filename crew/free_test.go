package crew_test

import (
	"math/rand"
	"runtime"
	"slices"
	"strings"
	"testing"
	"time"

	"fugue/api"
	"fugue/crew"
)

// stacks: of all goroutines, each with what it does and who began it.
func stacks() []string {
	room := make([]byte, 1<<16)
	for {
		if n := runtime.Stack(room, true); n < len(room) {
			return strings.Split(string(room[:n]), "\n\n")
		}
		room = make([]byte, 2*len(room))
	}
}

// inside: the goroutines that are at work, or wait, in the code of the packages. Who began them is no matter: one whose work is over may not be quite gone.
func inside() []string {
	return slices.DeleteFunc(stacks(), func(s string) bool {
		return !slices.ContainsFunc(strings.Split(s, "\n"), func(line string) bool {
			return strings.HasPrefix(line, "fugue/crew.") || strings.HasPrefix(line, "fugue/coop.")
		})
	})
}

// noneLeft: from now on; the call tells whether goroutines are left that were not there.
func noneLeft(t *testing.T) func(what string) {
	t.Helper()
	before := runtime.NumGoroutine()
	return func(what string) {
		t.Helper()
		if l := inside(); len(l) > 0 {
			t.Fatalf("P14.2: %d goroutines are left behind %s: %s", len(l), what, l[0])
		}
		for range 2000 {
			if runtime.NumGoroutine() <= before {
				return
			}
			time.Sleep(time.Millisecond)
		}
		t.Fatalf("P14.2: %d goroutines are left behind %s", runtime.NumGoroutine()-before, what)
	}
}

func TestNoGoroutineIsLeft(t *testing.T) {
	clean := noneLeft(t)
	for seed := range 200 {
		r := rand.New(rand.NewSource(int64(seed)))
		p := anyProgram(r, 9, 7)
		for _, workers := range []int{1, 2, 5, 64, 0, 65} {
			crew.Free(p, workers)
			clean("Free")
			crew.Free(api.Program{}, workers)
			clean("Free of no program")
			crew.Scripted(p, workers, anyScript(r, 30)...)
			clean("Scripted")
			crew.Scripted(api.Program{}, workers, 1, 2)
			clean("Scripted of no program")
			crew.Bound(p, workers)
			clean("Bound")
		}
	}
}

// shapes: programs in which workers wait for one another in other ways: all of them hand a parameter on.
func shapes() []api.Program {
	var l []api.Program
	for _, callees := range []func(f, n int) []int{
		func(f, n int) []int { return nil },                            // leaves
		func(f, n int) []int { return []int{f + 1} },                   // a chain
		func(f, n int) []int { return []int{f - 1} },                   // one the other way
		func(f, n int) []int { return []int{2*f + 1, 2*f + 2} },        // a tree
		func(f, n int) []int { return []int{(f - 1) / 2 * min(f, 1)} }, // one whose root is called, and calls itself
		func(f, n int) []int { return []int{n - 1} },                   // all wait for one
		func(f, n int) []int { return []int{f + 1, f + 2, f + 7} },     // many ways
		func(f, n int) []int { return []int{f/8*8 + (f+1)%8, f + 8} },  // rings in a chain
		func(f, n int) []int { return []int{(f + 1) % n} },             // one ring
		func(f, n int) []int { return []int{(f + n - 1) % n} },         // one the other way
	} {
		const n = 120
		p := api.Program{Globals: 1}
		for f := range n {
			x := api.Func{Params: 1, Results: 1, Vars: 3}
			for _, g := range callees(f, n) {
				if g >= 0 && g < n && (g != f || f == n-1) {
					x.Code = append(x.Code, api.Instr{Op: api.Load, R: 1}, call(g, []int{f % 2}, []int{2}))
				}
			}
			if f%7 == 3 {
				x.Code = append(x.Code, api.Instr{Op: api.Set, S: f % 3})
			}
			x.Code = append(x.Code, ret(f%2*2))
			p.Funcs = append(p.Funcs, x)
		}
		l = append(l, p)
	}
	return l
}

func TestFreeRuns(t *testing.T) {
	within(t, func() {
		for i, p := range shapes() {
			want := least(t, p)
			for workers := 1; workers <= api.MaxWorkers; workers++ {
				for range 3 {
					if l, e := crew.Free(p, workers); e != api.OK || !alikeSums(l, want) {
						t.Errorf("P14.2: shape %d, %d workers: %v, error %d, want %v", i, workers, l, e, want)
						return
					}
				}
			}
		}
	})
}

func TestScriptedRunsOfShapes(t *testing.T) {
	r := rand.New(rand.NewSource(5))
	for _, p := range shapes() {
		for _, workers := range []int{1, 2, 7, 64} {
			s := agrees(t, p, workers, anyScript(r, 2000))
			follows(t, s.g, workers, s.events)
			solves(t, p, workers, anyScript(r, 2000))
		}
	}
}

// Runs at one time know nothing of one another.
func TestRunsAtOneTime(t *testing.T) {
	clean := noneLeft(t)
	l := shapes()
	var want [][]api.Summary
	var events [][]api.Event
	for _, p := range l {
		_, h, _ := crew.Scripted(p, 3, edges...)
		want, events = append(want, least(t, p)), append(events, h)
	}
	together(t, 8, func(g int) {
		for i := range 3 * len(l) {
			k := (i + g) % len(l)
			if s, e := crew.Free(l[k], 1+(i*g)%64); e != api.OK || !alikeSums(s, want[k]) {
				t.Errorf("R6: at one time with others: shape %d: error %d", k, e)
			}
			if s, h, e := crew.Scripted(l[k], 3, edges...); e != api.OK || !alikeSums(s, want[k]) || !slices.Equal(h, events[k]) {
				t.Errorf("R6: at one time with others: shape %d, scripted: error %d", k, e)
			}
		}
	})
	clean("many runs")
}

// Free runs with fewer processors than workers, and with one alone.
func TestFewProcessors(t *testing.T) {
	for _, many := range []int{1, 2} {
		was := runtime.GOMAXPROCS(many)
		within(t, func() {
			for _, p := range shapes() {
				want := least(t, p)
				for _, workers := range []int{1, 2, 3, 64} {
					if l, e := crew.Free(p, workers); e != api.OK || !alikeSums(l, want) {
						t.Errorf("P14.2: %d processors, %d workers: error %d", many, workers, e)
					}
				}
			}
		})
		runtime.GOMAXPROCS(was)
	}
}
