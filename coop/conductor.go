package coop

import (
	"slices"
	"sync"
)

// conductor: lets one goroutine at a time go on. It waits for each step's end, and asks who is ready only between two steps: so nothing happens at one time, and each sees what was done before it.
type conductor struct {
	bodies []Body          // a list of its own: what a step does to the one that was handed in is not seen
	turns  []chan struct{} // by body: where its goroutine waits for its turn; nil: it has none
	more   chan bool       // what a step answered
	open   []int           // the bodies that have not ended, rising
	gone   sync.WaitGroup
}

func newConductor(bodies []Body) *conductor {
	c := &conductor{bodies: slices.Clone(bodies), turns: make([]chan struct{}, len(bodies)), more: make(chan bool)}
	for i, b := range c.bodies {
		if b.Step != nil {
			c.open = append(c.open, i)
			c.hire(i)
		}
	}
	return c
}

// hire: the body's goroutine begins, and waits.
func (c *conductor) hire(i int) {
	step, turn := c.bodies[i].Step, make(chan struct{})
	c.turns[i] = turn
	c.gone.Go(func() {
		for range turn {
			c.more <- step()
		}
	})
}

// dismiss: also those that wait for what never comes.
func (c *conductor) dismiss() {
	for _, turn := range c.turns {
		if turn != nil {
			close(turn)
		}
	}
	c.gone.Wait()
}

// ask: who can go on, rising, laid into a list without elements.
func (c *conductor) ask(l []int) []int {
	for _, i := range c.open {
		if ready := c.bodies[i].Ready; ready == nil || says(ready) {
			l = append(l, i)
		}
	}
	return l
}

// says: one that panics instead of answering has not said that it is ready.
func says(ready func() bool) bool {
	defer func() { recover() }()
	return ready()
}

func (c *conductor) step(i int) {
	c.turns[i] <- struct{}{}
	if more := <-c.more; more {
		return
	}
	if at, is := slices.BinarySearch(c.open, i); is {
		c.open = slices.Delete(c.open, at, at+1)
	}
}
