package deque_test

import (
	"fmt"
	"math"
	"sync"
	"testing"
	"time"

	"fugue/deque"
)

// edges: tasks at the ends of the numbers and about 0.
var edges = []int{math.MinInt, math.MinInt + 1, -1 << 32, -2, -1, 0, 1, 2, 1 << 32, math.MaxInt - 1, math.MaxInt}

func pops(t *testing.T, d *deque.Deque, want int) {
	t.Helper()
	if n, ok := d.Pop(); n != want || !ok {
		t.Errorf("P12.2: Pop: %d, %v, want %d, true", n, ok, want)
	}
}

func steals(t *testing.T, d *deque.Deque, want int) {
	t.Helper()
	if n, ok := d.Steal(); n != want || !ok {
		t.Errorf("P12.2: Steal: %d, %v, want %d, true", n, ok, want)
	}
}

func has(t *testing.T, d *deque.Deque, want int) {
	t.Helper()
	if n := d.Len(); n != want {
		t.Errorf("P12.2: Len: %d, want %d", n, want)
	}
}

// empty: no task, at either end, however often one asks.
func empty(t *testing.T, d *deque.Deque) {
	t.Helper()
	for range 2 {
		if n, ok := d.Pop(); n != 0 || ok {
			t.Errorf("P12.2: Pop of an empty deque: %d, %v, want 0, false", n, ok)
		}
		if n, ok := d.Steal(); n != 0 || ok {
			t.Errorf("P12.2: Steal of an empty deque: %d, %v, want 0, false", n, ok)
		}
		has(t, d, 0)
	}
}

func push(d *deque.Deque, tasks ...int) {
	for _, n := range tasks {
		d.Push(n)
	}
}

// with: a deque whose tasks are these, from the far end to the near one.
func with(tasks ...int) *deque.Deque {
	d := deque.New()
	push(d, tasks...)
	return d
}

// holds: just these tasks, from the far end to the near one; then none is there.
func holds(t *testing.T, d *deque.Deque, tasks ...int) {
	t.Helper()
	has(t, d, len(tasks))
	for _, n := range tasks {
		steals(t, d, n)
	}
	empty(t, d)
}

// The kinds of calls.
const (
	pushing = iota
	popping
	stealing
	asking
	kinds
)

// call: what was called and what it answered (a Len: n alone), and, of a free run, when it began and ended.
type call struct {
	kind, n    int
	ok         bool
	begin, end int
}

func (c call) String() string {
	name := []string{"Push", "Pop", "Steal", "Len"}[c.kind]
	return fmt.Sprintf("%s %d %v (%d to %d)", name, c.n, c.ok, c.begin, c.end)
}

// called: a call of a kind; n is a Push's task.
func called(d *deque.Deque, kind, n int) call {
	c := call{kind: kind}
	switch kind {
	case pushing:
		d.Push(n)
		c.n = n
	case popping:
		c.n, c.ok = d.Pop()
	case stealing:
		c.n, c.ok = d.Steal()
	case asking:
		c.n = d.Len()
	}
	return c
}

// plain: a deque as a list, the far end first. Each call makes a new one.
type plain []int

func (p plain) do(kind, n int) (plain, call) {
	switch {
	case kind == pushing:
		return append(p[:len(p):len(p)], n), call{kind: kind, n: n}
	case kind == asking:
		return p, call{kind: kind, n: len(p)}
	case len(p) == 0:
		return p, call{kind: kind}
	case kind == popping:
		return p[:len(p)-1], call{kind: kind, n: p[len(p)-1], ok: true}
	}
	return p[1:], call{kind: kind, n: p[0], ok: true}
}

// together: so many goroutines, begun at one time; all must end.
func together(t *testing.T, many int, do func(g int)) {
	t.Helper()
	var all sync.WaitGroup
	start, over := make(chan bool), make(chan bool)
	for g := range many {
		all.Go(func() {
			<-start
			do(g)
		})
	}
	close(start)
	go func() {
		all.Wait()
		close(over)
	}()
	select {
	case <-over:
	case <-time.After(2 * time.Minute):
		t.Fatal("P12.2: a call waits for ever")
	}
}
