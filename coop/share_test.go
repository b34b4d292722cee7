package coop_test

import (
	"math/rand"
	"runtime"
	"slices"
	"testing"
	"time"

	"fugue/coop"
)

const mark = -77 // stands in spare room

// roomy: the same list with spare room behind it, in which more stands.
func roomy[T any](l []T, more T) []T {
	return append(append(make([]T, 0, len(l)+2), l...), more, more)[:len(l)]
}

func fill[T any](l []T, x T) {
	l = l[:cap(l)]
	for i := range l {
		l[i] = x
	}
}

// full: a list with its spare room, in new memory.
func full[T any](l []T) []T { return slices.Clone(l[:cap(l)]) }

func TestTheScriptStays(t *testing.T) {
	for seed := range 500 {
		r := rand.New(rand.NewSource(int64(seed)))
		script := roomy(anyScript(r, 40), mark)
		before := full(script)
		_, l := bodies(anyParts(r, 1+r.Intn(6), 5))
		coop.Run(l, script...)
		if !slices.Equal(full(script), before) {
			t.Fatalf("P13.3: seed %d: the script was changed: %v, was %v", seed, full(script), before)
		}
	}
}

// The list of bodies, its spare room too, still holds what was laid there: each place's calls still tell its number.
func TestTheBodiesStay(t *testing.T) {
	for _, script := range [][]int{nil, edges} {
		told := 0
		running := true
		l := make([]coop.Body, 12)
		for i := range l {
			if i%5 != 1 {
				l[i].Step = func() bool { told = i; return false }
			}
			if i%3 > 0 {
				l[i].Ready = func() bool { told = -i; return running && i%4 > 0 }
			}
		}
		coop.Run(l[:10:12], script...)
		running = false
		for i, b := range l {
			if (b.Step != nil) != (i%5 != 1) || (b.Ready != nil) != (i%3 > 0) {
				t.Fatalf("P13.3: the body %d was changed", i)
			}
			if b.Step != nil {
				if b.Step(); told != i {
					t.Errorf("P13.3: in the place of body %d stands the Step of %d", i, told)
				}
			}
			if b.Ready != nil {
				if b.Ready(); told != -i {
					t.Errorf("P13.3: in the place of body %d stands the Ready of %d", i, -told)
				}
			}
		}
	}
}

// Spare room of the list of bodies is no body.
func TestSpareRoomIsNoBody(t *testing.T) {
	wild := 0
	more := coop.Body{Step: func() bool { wild++; return wild < 5 }}
	runs(t, "spare bodies", roomy(allEnd(1, 1), more), roomy([]int{-1}, 0), []int{1, 0}, true)
	if wild > 0 {
		t.Error("P13.3: a body in spare room did a step")
	}
}

// Neither what becomes of the script nor what becomes of another answer, its spare room too, is seen in an answer.
func TestAnswersAreTheirOwn(t *testing.T) {
	for seed := range 300 {
		for keep := range 2 {
			r := rand.New(rand.NewSource(int64(seed)))
			parts, script := anyParts(r, 1+r.Intn(6), 6), roomy(anyScript(r, 40), mark)
			var two [2][]int
			for i := range two {
				_, l := bodies(parts)
				two[i], _ = coop.Run(l, script...)
			}
			want := slices.Clone(two[keep])
			fill(script, mark)
			fill(two[1-keep], mark)
			if !slices.Equal(two[keep], want) {
				t.Fatalf("P13.3: seed %d: the answer %d shares memory", seed, keep)
			}
		}
	}
	script := []int{0, 0, 0, 0}
	l, _ := coop.Run(allEnd(4), script...)
	fill(l, mark)
	if !slices.Equal(script, []int{0, 0, 0, 0}) {
		t.Error("P13.3: the answer is the script's memory")
	}
}

// Numbers behind those that are needed say nothing, and what becomes of them meanwhile is no matter.
func TestNumbersThatAreNotNeeded(t *testing.T) {
	for seed := range 300 {
		r := rand.New(rand.NewSource(int64(seed)))
		parts, script := anyParts(r, 1+r.Intn(6), 5), anyScript(r, 60)
		want, _ := agrees(t, parts, script)
		if len(want) > len(script) {
			continue
		}
		for _, more := range [][]int{nil, {0}, edges} {
			got, _ := agrees(t, parts, append(slices.Clone(script[:len(want)]), more...))
			if !slices.Equal(got, want) {
				t.Fatalf("P13.3: seed %d: with %v behind the script: %v, want %v", seed, more, got, want)
			}
		}
	}
}

// Who writes there while Run runs gets in nobody's way.
func TestNumbersThatAreNotLookedAt(t *testing.T) {
	script := times(5, -1, edges...)
	start, stop, over := make(chan bool), make(chan bool), make(chan bool)
	go func() {
		defer close(over)
		close(start)
		for n := 0; ; n++ {
			select {
			case <-stop:
				return
			default:
				script[5+n%len(edges)] = n
			}
		}
	}()
	<-start
	for range 300 {
		if l, all := coop.Run(allEnd(2, 1, 2), script...); !all || !slices.Equal(l, []int{2, 2, 1, 0, 0}) {
			t.Errorf("P13.3: %v, %v, want [2 2 1 0 0], true", l, all)
		}
	}
	close(stop)
	<-over
}

// allocated: how many bytes a call takes, given back or not.
func allocated(do func()) int {
	var before, after runtime.MemStats
	runtime.ReadMemStats(&before)
	do()
	runtime.ReadMemStats(&after)
	return int(after.TotalAlloc - before.TotalAlloc)
}

// A long script of which little is needed costs nothing.
func TestLongScriptsThatAreNotNeeded(t *testing.T) {
	script := make([]int, 1<<22)
	for many := range 4 {
		l := allEnd(slices.Repeat([]int{1}, many)...)
		if n := allocated(func() { coop.Run(l, script...) }); n > 1<<20 {
			t.Errorf("P13.3: of %d bodies a script of %d numbers takes %d bytes", many, len(script), n)
		}
	}
}

// Behind Run neither the script nor the list of bodies nor what they hold is kept, though the answer is.
func TestNothingIsKept(t *testing.T) {
	gone := make(chan string, 3)
	watch := func() ([]int, bool) {
		script, l, held := make([]int, 500), make([]coop.Body, 50), new([100]int)
		for i := range l {
			l[i] = coop.Body{
				Step:  func() bool { held[i]++; return held[i] < 3 },
				Ready: func() bool { return i < 40 || held[0] < 0 },
			}
		}
		runtime.AddCleanup(&script[0], func(s string) { gone <- s }, "script")
		runtime.AddCleanup(&l[0], func(s string) { gone <- s }, "list")
		runtime.AddCleanup(held, func(s string) { gone <- s }, "held")
		return coop.Run(l, script...)
	}
	answer, all := watch()
	seen := 0
	for range 1000 {
		runtime.GC()
		time.Sleep(time.Millisecond)
		if seen = len(gone); seen == 3 {
			break
		}
	}
	if seen != 3 {
		t.Errorf("P13.3: of the script, the list and what it holds %d are still kept", 3-seen)
	}
	if all || len(answer) != 120 {
		t.Errorf("P13.1: %d picks, %v", len(answer), all)
	}
	runtime.KeepAlive(answer)
}

// What a step does to the list that was handed in is seen in the list, not in the run.
func TestTheListChangesMeanwhile(t *testing.T) {
	l := allEnd(2, 2, 1)
	first := l[0].Step
	wild := 0
	l[0].Step = func() bool {
		for i := range l {
			l[i] = coop.Body{Step: func() bool { wild++; return false }, Ready: never}
		}
		return first()
	}
	runs(t, "a list that changes", l, nil, []int{0, 1, 2, 0, 1}, true)
	if wild > 0 || l[1].Ready == nil {
		t.Errorf("P13.3: %d steps of bodies that were not handed in", wild)
	}
}
