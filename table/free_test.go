package table_test

import (
	"math/rand"
	"runtime"
	"slices"
	"strconv"
	"sync"
	"sync/atomic"
	"testing"
	"time"

	"fugue/api"
	"fugue/table"
)

// together: so many goroutines, begun at one time; all must end.
func together(t *testing.T, many int, do func(g int)) {
	t.Helper()
	var all sync.WaitGroup
	start, over := make(chan bool), make(chan bool)
	for g := range many {
		all.Go(func() {
			<-start
			do(g)
		})
	}
	close(start)
	go func() {
		all.Wait()
		close(over)
	}()
	select {
	case <-over:
	case <-time.After(2 * time.Minute):
		t.Fatal("P11.2: a call waits for ever")
	}
}

// freeRun: goroutines that call one table, each its own calls; all that was called, with its beginning and its end by one clock.
func freeRun(t *testing.T, clients [][]api.Op) []call {
	t.Helper()
	x := table.New()
	var clock atomic.Int64
	did := make([][]call, len(clients))
	together(t, len(clients), func(g int) {
		for _, op := range clients[g] {
			c := call{op: op, begin: int(clock.Add(1))}
			c.reply = called(x, op)
			c.end = int(clock.Add(1))
			did[g] = append(did[g], c)
		}
	})
	return slices.Concat(did...)
}

func TestAnyFreeRunHasAnOrder(t *testing.T) {
	for seed := range 600 {
		r := rand.New(rand.NewSource(int64(seed)))
		var clients [][]api.Op
		for g := range 2 + r.Intn(8) {
			var ops []api.Op
			for range 1 + r.Intn(25) {
				k := r.Intn(30) - 10
				ops = append(ops, []api.Op{pub(k, strconv.Itoa(g)), pub(k, "same"), look(k), look(k), snap}[r.Intn(5)])
			}
			clients = append(clients, ops)
		}
		if l := freeRun(t, clients); !hasOrder(l) {
			t.Fatalf("P11.2: seed %d: no order of the calls has these answers: %+v", seed, l)
		}
	}
}

// Of each key one Publish is told true, and its value is what all see from then on.
func TestOneWinsEachKey(t *testing.T) {
	const many, keys = 12, 3000
	x := table.New()
	won := make([][]bool, many)
	together(t, many, func(g int) {
		won[g] = make([]bool, keys)
		for k := range keys {
			won[g][k] = x.Publish(k-keys/2, strconv.Itoa(g))
		}
	})
	for k := range keys {
		var winners []int
		for g := range many {
			if won[g][k] {
				winners = append(winners, g)
			}
		}
		if len(winners) != 1 {
			t.Fatalf("P11.2: of the key %d these were told true: %v", k-keys/2, winners)
		}
		looks(t, x, k-keys/2, strconv.Itoa(winners[0]))
	}
	if l, _ := x.Snapshot(); len(l) != keys {
		t.Errorf("P11.2: Snapshot: %d keys, want %d", len(l), keys)
	}
}

// What is there stays as it was found first, for everyone.
func TestWhatIsFoundStays(t *testing.T) {
	const many, keys = 8, 500
	x := table.New()
	found := make([][]string, many)
	together(t, many, func(g int) {
		found[g] = make([]string, keys)
		for k := range keys {
			x.Publish(k, strconv.Itoa(g))
			found[g][k], _ = x.Lookup(k)
		}
	})
	for g := range many {
		for k := range keys {
			looks(t, x, k, found[g][k])
		}
	}
}

// firsts: how many of a publisher's keys, which it published in their order, a Snapshot tells; -1, if one is told and one ahead of it is not.
func firsts(keys []int, from, to int) int {
	n := 0
	for _, k := range keys {
		if k >= from && k < to {
			if k != from+n {
				return -1
			}
			n++
		}
	}
	return n
}

// A Snapshot is taken at one moment: of keys published one behind the other, through all stripes, it tells the first ones, and a later Snapshot no fewer.
func TestSnapshotAtOneMoment(t *testing.T) {
	const publishers, takers, keys = 3, 3, 4000
	x := table.New()
	var left atomic.Int64
	left.Store(publishers)
	together(t, publishers+takers, func(g int) {
		if g < publishers {
			for k := range keys {
				x.Publish(g*keys+k, "")
			}
			left.Add(-1)
			return
		}
		before := make([]int, publishers)
		for more := true; more; {
			more = left.Load() > 0
			l, values := x.Snapshot()
			if len(values) != len(l) || !slices.IsSorted(l) {
				t.Errorf("P11.2: Snapshot: %d keys, %d values", len(l), len(values))
			}
			for p := range publishers {
				n := firsts(l, p*keys, (p+1)*keys)
				if n < before[p] {
					t.Errorf("P11.2: Snapshot: of publisher %d the first %d, behind one with %d", p, n, before[p])
				}
				before[p] = n
			}
		}
	})
}

// Two who publish by turns, each when it has found the other's last: who takes a Snapshot finds no gap in both together.
func TestSnapshotOfTwoWhoAnswerEachOther(t *testing.T) {
	const keys = 2000
	x := table.New()
	var over atomic.Bool
	together(t, 4, func(g int) {
		if g < 2 {
			for k := g; k < keys; k += 2 {
				for k > 0 {
					if _, ok := x.Lookup(k - 1); ok {
						break
					}
					runtime.Gosched()
				}
				x.Publish(k, "")
			}
			over.Store(true)
			return
		}
		for more := true; more; {
			more = !over.Load()
			l, _ := x.Snapshot()
			if firsts(l, 0, keys) != len(l) {
				t.Errorf("P11.2: Snapshot: %d keys, with a gap", len(l))
			}
			runtime.Gosched()
		}
	})
}
