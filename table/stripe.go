package table

import (
	"sync"
	"sync/atomic"

	"fugue/api"
)

// stripe: the keys of one remainder, with a lock of their own, so that calls of other stripes need not wait for it.
type stripe struct {
	sync.Mutex
	entries map[int]*entry
}

// entry: a key's value. It is laid once, ahead of ready, so that who sees ready may read it without the stripe's lock.
type entry struct {
	value string
	ready atomic.Bool
}

func stripeOf(key int) int { return mod(key, api.Stripes) }

// mod: from 0 to n - 1, of numbers below 0 too.
func mod(k, n int) int { return (k%n + n) % n }

// publish: the entry is made and filled under one lock, so that none is found that is not ready.
func (s *stripe) publish(key int, value string) bool {
	s.Lock()
	defer s.Unlock()
	e := s.entries[key]
	if e == nil {
		e = &entry{}
		s.entries[key] = e
	}
	return e.fill(value)
}

// find: nil, if nothing was published for the key.
func (s *stripe) find(key int) *entry {
	s.Lock()
	defer s.Unlock()
	return s.entries[key]
}

// fill: the first value stays.
func (e *entry) fill(value string) bool {
	if e.ready.Load() {
		return false
	}
	e.value = value
	e.ready.Store(true)
	return true
}

func (e *entry) read() (string, bool) {
	if e == nil || !e.ready.Load() {
		return "", false
	}
	return e.value, true
}
