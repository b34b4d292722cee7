package deque_test

import (
	"runtime"
	"testing"

	"fugue/deque"
)

// inUse: how many bytes the program holds.
func inUse() int {
	var s runtime.MemStats
	runtime.GC()
	runtime.ReadMemStats(&s)
	return int(s.HeapAlloc)
}

const (
	word  = 8
	slack = 1 << 18 // what the test itself and the runtime take
)

// A line that moves on and on, at every few lengths.
func TestALineThatMovesOn(t *testing.T) {
	for _, stand := range []int{0, 1, 2, 3, 7, 8, 10, 100} {
		d := deque.New()
		for n := range stand {
			d.Push(n)
		}
		was := inUse()
		const moves = 300000
		for n := range moves {
			d.Push(stand + n)
			steals(t, d, n)
		}
		if grown := inUse() - was; grown > slack+8*word*stand {
			t.Errorf("P12.4: a line of %d tasks has grown by %d bytes", stand, grown)
		}
		for n := range stand {
			pops(t, d, stand+moves-1-n)
		}
		empty(t, d)
	}
}

// The same at the near end, and with tasks that come and go in heaps.
func TestWhatComesAndGoes(t *testing.T) {
	d := deque.New()
	was := inUse()
	for n := range 300000 {
		d.Push(n)
		pops(t, d, n)
	}
	for range 3000 {
		for n := range 100 {
			d.Push(n)
		}
		for n := range 50 {
			steals(t, d, n)
			pops(t, d, 99-n)
		}
	}
	if grown := inUse() - was; grown > slack {
		t.Errorf("P12.4: a deque of at most 100 tasks has grown by %d bytes", grown)
	}
	empty(t, d)
}

func TestManyTasks(t *testing.T) {
	const many = 1 << 20
	for _, more := range []int{-1, 0, 1, many / 2} {
		was := inUse()
		d := deque.New()
		for n := range many + more {
			d.Push(n)
		}
		if grown := inUse() - was; grown > 4*word*(many+more) {
			t.Errorf("P12.4: %d tasks take %d bytes", many+more, grown)
		}
		for n := range many + more {
			steals(t, d, n)
		}
		empty(t, d)
	}
}

// Deques of none or few tasks take little.
func TestManyDeques(t *testing.T) {
	const many = 20000
	for few := range 4 {
		was := inUse()
		l := make([]*deque.Deque, many)
		for i := range l {
			l[i] = deque.New()
			for n := range few {
				l[i].Push(i + n)
			}
		}
		if grown := (inUse() - was) / many; grown > 96+4*word*few {
			t.Errorf("P12.4: a deque of %d tasks takes %d bytes", few, grown)
		}
		for i, d := range l {
			for n := range few {
				steals(t, d, i+n)
			}
			has(t, d, 0)
		}
	}
}
