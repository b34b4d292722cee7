package deque_test

import (
	"math/rand"
	"runtime"
	"slices"
	"sync/atomic"
	"testing"

	"fugue/deque"
)

// freeRun: goroutines that call one deque, each its own kinds of calls; all that was called, with its beginning and its end by one clock. The tasks of no two pushes are the same.
func freeRun(t *testing.T, kinds [][]int) [][]call {
	t.Helper()
	d := deque.New()
	var clock atomic.Int64
	did := make([][]call, len(kinds))
	together(t, len(kinds), func(g int) {
		for i, kind := range kinds[g] {
			begin := int(clock.Add(1))
			c := called(d, kind, 1000*g+i+1)
			c.begin, c.end = begin, int(clock.Add(1))
			did[g] = append(did[g], c)
		}
	})
	return did
}

func TestAnyFreeRunHasAnOrder(t *testing.T) {
	for seed := range 1500 {
		r := rand.New(rand.NewSource(int64(seed)))
		calls := make([][]int, 2+r.Intn(4))
		for g := range calls {
			for range 1 + r.Intn(12) {
				calls[g] = append(calls[g], []int{pushing, pushing, popping, stealing, asking}[r.Intn(5)])
			}
		}
		if did := freeRun(t, calls); !hasOrder(did) {
			t.Fatalf("P12.2: seed %d: no order of the calls has these answers: %v", seed, did)
		}
	}
}

// once: each task from 0 on, of so many, came out just once, or stands there still.
func once(t *testing.T, d *deque.Deque, many int, out [][]int) {
	t.Helper()
	times := make([]int, many)
	for n, ok := d.Steal(); ok; n, ok = d.Steal() {
		out = append(out, []int{n})
	}
	for _, n := range slices.Concat(out...) {
		if n < 0 || n >= many {
			t.Fatalf("P12.2: the task %d came out, and was never pushed", n)
		}
		times[n]++
	}
	for n, k := range times {
		if k != 1 {
			t.Fatalf("P12.2: the task %d came out %d times", n, k)
		}
	}
	empty(t, d)
}

// Everybody pushes, pops and steals.
func TestEachTaskOnce(t *testing.T) {
	const many, each = 8, 20000
	d := deque.New()
	out := make([][]int, many)
	together(t, many, func(g int) {
		for i := range each {
			d.Push(each*g + i)
			take := d.Pop
			if (i+g)%2 == 0 {
				take = d.Steal
			}
			if i%3 > 0 {
				if n, ok := take(); ok {
					out[g] = append(out[g], n)
				}
			}
			if n := d.Len(); n < 0 || n > many*each {
				t.Errorf("P12.2: Len: %d", n)
			}
		}
	})
	once(t, d, many*each, out)
}

// One owner who pushes and pops, and thieves: what each thief gets rises, since what stands there does, from the far end on.
func TestAnOwnerAndThieves(t *testing.T) {
	const thieves, tasks = 6, 60000
	d := deque.New()
	var over atomic.Bool
	out := make([][]int, 1+thieves)
	together(t, 1+thieves, func(g int) {
		if g == 0 {
			for n := range tasks {
				d.Push(n)
				if n%4 == 0 {
					if p, ok := d.Pop(); ok {
						out[0] = append(out[0], p)
					}
				}
			}
			over.Store(true)
			return
		}
		for more := true; more; {
			more = !over.Load()
			n, ok := d.Steal()
			if ok {
				more = true
				out[g] = append(out[g], n)
			} else {
				runtime.Gosched()
			}
		}
	})
	for g, l := range out {
		if !slices.IsSorted(l) {
			t.Errorf("P12.2: the tasks of %d came out of their order", g)
		}
	}
	once(t, d, tasks, out)
}

// A line that many move on takes no more room than what stands there at one time.
func TestALineThatManyMove(t *testing.T) {
	const many, stand, each = 6, 20, 50000
	d := deque.New()
	for n := range stand {
		d.Push(n)
	}
	was := inUse()
	together(t, many, func(int) {
		for range each {
			n, ok := d.Steal()
			if !ok {
				t.Error("P12.2: Steal: none, though fewer steal than stand there")
				return
			}
			d.Push(n)
		}
	})
	if grown := inUse() - was; grown > slack {
		t.Errorf("P12.4: a line of at most %d tasks has grown by %d bytes", stand, grown)
	}
	once(t, d, stand, nil)
}

// The last task is taken by one.
func TestTheLastTaskByOne(t *testing.T) {
	const many, rounds = 4, 2000
	d := deque.New()
	for round := range rounds {
		d.Push(round)
		var took atomic.Int64
		together(t, many, func(g int) {
			take := d.Pop
			if g%2 == 0 {
				take = d.Steal
			}
			n, ok := take()
			if ok {
				took.Add(1)
			}
			if ok && n != round || !ok && n != 0 {
				t.Errorf("P12.2: of the one task %d: %d, %v", round, n, ok)
			}
		})
		if took.Load() != 1 {
			t.Fatalf("P12.2: one task was taken %d times", took.Load())
		}
	}
	empty(t, d)
}

// Each goroutine has deques of its own, at the same time: none sees another's tasks.
func TestDequesAtOneTime(t *testing.T) {
	together(t, 8, func(g int) {
		for seed := range 30 {
			r := rand.New(rand.NewSource(int64(100*g + seed)))
			d := deque.New()
			var p plain
			for i := range 200 {
				q, want := p.do(r.Intn(kinds), 1000*g+i)
				got := called(d, want.kind, 1000*g+i)
				if got != want {
					t.Errorf("P12.4: with %v there: %v, want %v", p, got, want)
					return
				}
				p = q
			}
		}
	})
}

// Of a nil deque too.
func TestNoDequeAtOneTime(t *testing.T) {
	var d *deque.Deque
	together(t, 8, func(g int) {
		for i := range 1000 {
			want := call{kind: (g + i) % kinds}
			if want.kind == pushing {
				want.n = i
			}
			if got := called(d, want.kind, i); got != want {
				t.Errorf("P12.3: %v, want %v", got, want)
			}
		}
	})
}
