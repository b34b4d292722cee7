package deque

import (
	"runtime"
	"sync/atomic"
	"testing"
)

// Each call, Len too, waits while another one is at work: else it could see half of what that one does.
func TestCallsAreHeldApart(t *testing.T) {
	calls := []func(*Deque){
		func(d *Deque) { d.Push(1) },
		func(d *Deque) { d.Pop() },
		func(d *Deque) { d.Steal() },
		func(d *Deque) { d.Len() },
	}
	for i, call := range calls {
		d := New()
		d.Push(1)
		var over atomic.Bool
		begun, ended := make(chan bool), make(chan bool)
		d.lock.Lock()
		go func() {
			close(begun)
			call(d)
			over.Store(true)
			close(ended)
		}()
		<-begun
		for range 20000 {
			runtime.Gosched()
		}
		if over.Load() {
			t.Errorf("P12.2: the call %d did not wait for another one", i)
		}
		d.lock.Unlock()
		<-ended
	}
}
