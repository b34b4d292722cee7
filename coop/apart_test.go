package coop_test

import (
	"math/rand"
	"runtime"
	"slices"
	"strings"
	"sync"
	"sync/atomic"
	"testing"
	"time"

	"fugue/coop"
)

// stacks: of all goroutines, each with what it does and who began it.
func stacks() []string {
	room := make([]byte, 1<<16)
	for {
		if n := runtime.Stack(room, true); n < len(room) {
			return strings.Split(string(room[:n]), "\n\n")
		}
		room = make([]byte, 2*len(room))
	}
}

// inside: the goroutines that are at work, or wait, in the package's code. Who began them is no matter: one whose work is over may not be quite gone.
func inside() []string {
	return slices.DeleteFunc(stacks(), func(s string) bool {
		return !slices.ContainsFunc(strings.Split(s, "\n"), func(line string) bool { return strings.HasPrefix(line, "fugue/coop.") })
	})
}

// noneLeft: from now on; the call tells whether goroutines are left that were not there.
func noneLeft(t *testing.T) func() {
	t.Helper()
	before := runtime.NumGoroutine()
	return func() {
		t.Helper()
		if l := inside(); len(l) > 0 {
			t.Fatalf("P13.2: %d goroutines are left behind Run: %s", len(l), l[0])
		}
		for range 2000 {
			if runtime.NumGoroutine() <= before {
				return
			}
			time.Sleep(time.Millisecond)
		}
		t.Fatalf("P13.2: %d goroutines are left behind Run", runtime.NumGoroutine()-before)
	}
}

// self: the number of the goroutine that asks.
func self() string {
	room := make([]byte, 64)
	return strings.Fields(string(room[:runtime.Stack(room, false)]))[1]
}

// Whatever the answer, all are gone: those that have ended, that wait for ever, that were never picked.
func TestNoGoroutineIsLeft(t *testing.T) {
	clean := noneLeft(t)
	for range 200 {
		coop.Run(allEnd(1, 2, 1), 1, 1, 1)
		clean()
		coop.Run([]coop.Body{{always, never}, ends(3), {}, {always, never}})
		clean()
		coop.Run(slices.Repeat([]coop.Body{{always, never}}, 50))
		clean()
		coop.Run(slices.Repeat([]coop.Body{{Ready: always}}, 50))
		clean()
		coop.Run(allEnd(slices.Repeat([]int{2}, 50)...), edges...)
		clean()
	}
	for seed := range 1000 {
		r := rand.New(rand.NewSource(int64(seed)))
		_, l := bodies(anyParts(r, 1+r.Intn(20), 4))
		coop.Run(l, anyScript(r, 30)...)
		clean()
	}
}

// Each Step runs in its body's goroutine, the same for all of its steps, no other body's, and not the one that called Run.
func TestEachHasItsOwnGoroutine(t *testing.T) {
	const many, steps = 30, 5
	for _, script := range [][]int{nil, times(400, -1), edges} {
		ids := make([][]string, many)
		var l []coop.Body
		for i := range many {
			l = append(l, coop.Body{Step: func() bool {
				ids[i] = append(ids[i], self())
				return len(ids[i]) < steps
			}})
		}
		coop.Run(append(l, coop.Body{}), script...)
		owners := map[string]int{self(): -1}
		for i, own := range ids {
			if len(own) != steps || len(slices.Compact(own)) != 1 {
				t.Fatalf("P13.1: the steps of body %d ran in the goroutines %v", i, own)
			}
			if other, is := owners[own[0]]; is {
				t.Fatalf("P13.1: the bodies %d and %d (-1: the caller) ran in one goroutine", i, other)
			}
			owners[own[0]] = i
		}
	}
}

// While a Step runs the goroutines of all bodies are there, one for each that has a Step, and all others wait, those that were never picked too.
func TestAllOthersWait(t *testing.T) {
	const many = 25
	waiting := 0
	look := func() bool {
		for range 2000 { // they may still be on their way there
			l := slices.DeleteFunc(inside(), func(s string) bool { return !strings.Contains(s, "[chan ") })
			if waiting = len(l); waiting == many+1 { // and the one that called Run
				break
			}
			time.Sleep(time.Millisecond)
		}
		return false
	}
	l := []coop.Body{{}, {Step: look}, {Ready: always}}
	for range many {
		l = append(l, coop.Body{Step: always, Ready: never})
	}
	coop.Run(l)
	if waiting != many+1 {
		t.Errorf("P13.1: %d goroutines wait while one does a step, want %d", waiting, many+1)
	}
}

// alone: tells whether somebody is at work while another one is.
type alone struct {
	at    atomic.Int64
	twice atomic.Int64
}

func (a *alone) work() {
	if a.at.Add(1) != 1 {
		a.twice.Add(1)
	}
	for range 3 {
		runtime.Gosched()
	}
	if a.at.Add(-1) != 0 {
		a.twice.Add(1)
	}
}

// No two Steps, and no Step and a Ready, at one time; what they write and read needs no lock.
func TestOneAtATime(t *testing.T) {
	for seed := range 60 {
		r := rand.New(rand.NewSource(int64(seed)))
		var a alone
		w, l := bodies(anyParts(r, 2+r.Intn(30), 6))
		for i, b := range l {
			if b.Step != nil {
				l[i].Step = func() bool { a.work(); return b.Step() }
			}
			if b.Ready != nil {
				l[i].Ready = func() bool { a.work(); return b.Ready() }
			}
		}
		picked, _ := coop.Run(l, anyScript(r, 100)...)
		if a.twice.Load() > 0 {
			t.Fatalf("P13.2: seed %d: two were at work at one time", seed)
		}
		var did []int
		for _, n := range w.log {
			if !n.asking {
				did = append(did, n.body)
			}
		}
		if !slices.Equal(did, picked) {
			t.Fatalf("P13.2: seed %d: the steps %v were done, picked were %v", seed, did, picked)
		}
	}
}

// A slow Step is waited for: neither is anybody asked, nor does anybody go on, nor is Run over, ahead of its end.
func TestSlowSteps(t *testing.T) {
	var log []string
	slow := func(name string) func() bool {
		return func() bool {
			log = append(log, name+" begins")
			time.Sleep(20 * time.Millisecond)
			log = append(log, name+" ends")
			return false
		}
	}
	told := func() bool { log = append(log, "asked"); return true }
	coop.Run([]coop.Body{{Step: slow("a")}, {slow("b"), told}, {Step: slow("c")}})
	want := []string{"asked", "a begins", "a ends", "asked", "b begins", "b ends", "c begins", "c ends"}
	if !slices.Equal(log, want) {
		t.Errorf("P13.2: %q, want %q", log, want)
	}
}

// Each sees all that was done before it, by whomever: a chain through plain memory.
func TestEachSeesWhatWasDone(t *testing.T) {
	const many, steps = 16, 2000
	chain, torn := 0, 0
	seen := make([]int, 0, 8)
	var l []coop.Body
	total := 0
	for range many {
		left := steps
		l = append(l, coop.Body{
			Step: func() bool {
				if chain != total {
					torn++
				}
				chain++
				total++
				seen = append(seen, chain)
				left--
				return left > 0
			},
			Ready: func() bool {
				if chain != total || len(seen) != total {
					torn++
				}
				return true
			},
		})
	}
	if _, all := coop.Run(l, anyScript(rand.New(rand.NewSource(1)), 30000)...); !all || torn > 0 || chain != many*steps {
		t.Errorf("P13.2: %v: %d of %d steps, %d saw less than was done", all, chain, many*steps, torn)
	}
	for i, n := range seen {
		if n != i+1 {
			t.Fatalf("P13.2: step %d saw %d", i, n)
		}
	}
}

// Runs that know nothing of one another, at one time.
func TestRunsAtOneTime(t *testing.T) {
	clean := noneLeft(t)
	r := rand.New(rand.NewSource(9))
	parts, script := anyParts(r, 9, 6), anyScript(r, 40)
	_, l := bodies(parts)
	want, wantAll := plainRun(l, script)
	together(t, 8, func(int) {
		for range 200 {
			_, l := bodies(parts)
			if got, all := coop.Run(l, script...); all != wantAll || !slices.Equal(got, want) {
				t.Errorf("R6: at one time with others: %v, %v, want %v, %v", got, all, want, wantAll)
			}
		}
	})
	clean()
}

// A Step, and a Ready, may call Run itself.
func TestRunsWithinRuns(t *testing.T) {
	clean := noneLeft(t)
	var lock sync.Mutex
	inner := 0
	within := func() {
		l, all := coop.Run(allEnd(1, 2, 1), -1)
		lock.Lock()
		defer lock.Unlock()
		if all && slices.Equal(l, []int{2, 0, 1, 1}) {
			inner++
		}
	}
	left := 3
	l, all := coop.Run([]coop.Body{
		{Step: func() bool { within(); left--; return left > 0 }},
		{Step: never, Ready: func() bool { within(); return left == 0 }},
	})
	if !all || !slices.Equal(l, []int{0, 0, 0, 1}) || inner != 7 {
		t.Errorf("P13.1: runs within a run: %v, %v, %d right ones within", l, all, inner)
	}
	clean()
}

// Behind Run nobody asks or steps any more.
func TestNothingGoesOnBehindRun(t *testing.T) {
	var calls atomic.Int64
	var l []coop.Body
	for i := range 40 {
		l = append(l, coop.Body{
			Step:  func() bool { calls.Add(1); return true },
			Ready: func() bool { calls.Add(1); return i%2 == 0 && calls.Load() < 3000 },
		})
	}
	picked, all := coop.Run(l, 3, -4)
	was := calls.Load()
	for range 100 {
		runtime.Gosched()
	}
	time.Sleep(5 * time.Millisecond)
	if all || len(picked) == 0 || calls.Load() != was {
		t.Errorf("P13.2: %v, %d picks, %d calls behind Run", all, len(picked), calls.Load()-was)
	}
}
