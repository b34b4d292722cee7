package deque_test

import (
	"slices"
	"testing"

	"fugue/deque"
)

func TestCallsOfTheChapter(t *testing.T) {
	d := with(1, 2, 3)
	pops(t, d, 3)
	steals(t, d, 1)
	d.Push(4)
	steals(t, d, 2)
	steals(t, d, 4)
	empty(t, d)
}

func TestAFreshDeque(t *testing.T) {
	d := deque.New()
	if d == nil {
		t.Fatal("P12.1: New: nil")
	}
	empty(t, d)
	d.Push(5)
	holds(t, d, 5)
}

// Any int is a task, 0 among them: it comes out with true.
func TestTasksAtTheEnds(t *testing.T) {
	for _, n := range edges {
		d := with(n)
		has(t, d, 1)
		pops(t, d, n)
		empty(t, d)
		d.Push(n)
		steals(t, d, n)
		empty(t, d)
	}
	holds(t, with(edges...), edges...)
	d := with(edges...)
	for _, n := range slices.Backward(edges) {
		pops(t, d, n)
	}
	empty(t, d)
}

// The same task stands there as often as it was pushed.
func TestTheSameTaskAgain(t *testing.T) {
	for _, n := range edges {
		for many := range 10 {
			d := with(slices.Repeat([]int{n}, many)...)
			for left := many; left > 0; left-- {
				has(t, d, left)
				if left%2 == 0 {
					pops(t, d, n)
				} else {
					steals(t, d, n)
				}
			}
			empty(t, d)
		}
	}
	holds(t, with(7, 8, 7, 7, 8, 7), 7, 8, 7, 7, 8, 7)
}

func TestPopsAlone(t *testing.T) {
	const many = 1000
	d := deque.New()
	for n := range many {
		d.Push(n)
		has(t, d, n+1)
	}
	for n := many - 1; n >= 0; n-- {
		pops(t, d, n)
		has(t, d, n)
	}
	empty(t, d)
}

func TestStealsAlone(t *testing.T) {
	const many = 1000
	d := deque.New()
	for n := range many {
		d.Push(n)
	}
	for n := range many {
		steals(t, d, n)
		has(t, d, many-1-n)
	}
	empty(t, d)
}

// The last task comes out once, at whichever end; then the deque is as a new one.
func TestTheLastTask(t *testing.T) {
	for _, atOnce := range []int{1, 2, 3, 4, 5, 8, 9} {
		d := deque.New()
		for round := range 50 {
			for n := range atOnce {
				d.Push(100*round + n)
			}
			last := 100*round + atOnce - 1
			if round%2 == 0 {
				last = 100 * round
			}
			for d.Len() > 1 {
				if round%2 == 0 {
					d.Pop()
				} else {
					d.Steal()
				}
			}
			if round%3 == 0 {
				pops(t, d, last)
			} else {
				steals(t, d, last)
			}
			empty(t, d)
		}
	}
}

// Pop and Steal of an empty deque leave it as it was.
func TestNothingByAskingInVain(t *testing.T) {
	for many := range 20 {
		d := deque.New()
		var want []int
		for n := range many {
			for range n {
				empty(t, d)
			}
			d.Push(n)
			if n%2 == 0 {
				pops(t, d, n)
			} else {
				steals(t, d, n)
			}
			empty(t, d)
			want = append(want, -n)
		}
		push(d, want...)
		holds(t, d, want...)
	}
}

// Wherever the line stands when it grows, it grows as it is: so many go ahead of it, so many stand there, so many come behind.
func TestAroundTheSeam(t *testing.T) {
	for ahead := range 20 {
		for stand := range 20 {
			for behind := range 20 {
				d := deque.New()
				for n := range stand {
					d.Push(n)
				}
				for n := range ahead {
					d.Push(stand + n)
					steals(t, d, n)
				}
				for n := range behind {
					d.Push(stand + ahead + n)
				}
				var want []int
				for n := range stand + behind {
					want = append(want, ahead+n)
				}
				holds(t, d, want...)
			}
		}
	}
}

func TestOfNoDeque(t *testing.T) {
	var d *deque.Deque
	for range 3 {
		for _, n := range edges {
			d.Push(n)
		}
		if n, ok := d.Pop(); n != 0 || ok {
			t.Errorf("P12.3: Pop: %d, %v, want 0, false", n, ok)
		}
		if n, ok := d.Steal(); n != 0 || ok {
			t.Errorf("P12.3: Steal: %d, %v, want 0, false", n, ok)
		}
		if n := d.Len(); n != 0 {
			t.Errorf("P12.3: Len: %d, want 0", n)
		}
	}
}

// A nil deque's calls change nothing of others.
func TestNoDequeBesideOthers(t *testing.T) {
	var none *deque.Deque
	d := with(1, 2)
	none.Push(3)
	none.Pop()
	none.Steal()
	holds(t, d, 1, 2)
	empty(t, deque.New())
}

func TestTwoDeques(t *testing.T) {
	d, e := deque.New(), deque.New()
	if d == e {
		t.Fatal("P12.4: New: the same deque twice")
	}
	push(d, 1, 2, 3)
	empty(t, e)
	push(e, 1, 5)
	pops(t, d, 3)
	steals(t, e, 1)
	has(t, d, 2)
	has(t, e, 1)
	d.Push(6)
	pops(t, e, 5)
	empty(t, e)
	holds(t, d, 1, 2, 6)
	push(e, 7)
	empty(t, d)
	holds(t, e, 7)
}
