package deque_test

import (
	"fmt"
	"math/rand"
	"testing"
)

// judge: seeks an order of calls, by goroutine each, that keeps who was over before whom began, and in which the plain list answers so.
type judge struct {
	calls [][]call
	vain  map[string]int // the states from which there is none
}

func hasOrder(calls [][]call) bool {
	j := judge{calls, map[string]int{}}
	return j.from(make([]int, len(calls)), nil)
}

// mayBeNext: has no call that is still to come ended before this one began?
func (j *judge) mayBeNext(at []int, c call) bool {
	for g, l := range j.calls {
		if at[g] < len(l) && l[at[g]].end < c.begin {
			return false
		}
	}
	return true
}

// from: at says by goroutine how many of its calls have come, p what stands there then.
func (j *judge) from(at []int, p plain) bool {
	state := fmt.Sprint(at, p)
	if j.vain[state] > 0 {
		return false
	}
	over := true
	for g, l := range j.calls {
		if at[g] == len(l) {
			continue
		}
		over = false
		c := l[at[g]]
		q, want := p.do(c.kind, c.n)
		if c.n != want.n || c.ok != want.ok || !j.mayBeNext(at, c) {
			continue
		}
		at[g]++
		is := j.from(at, q)
		at[g]--
		if is {
			return true
		}
	}
	if !over {
		j.vain[state]++
	}
	return over
}

// tryOrders: the same by trying all orders; order holds which calls have come.
func tryOrders(l []call, order []int) bool {
	if len(order) == len(l) {
		var p plain
		for at, i := range order {
			q, want := p.do(l[i].kind, l[i].n)
			if l[i].n != want.n || l[i].ok != want.ok {
				return false
			}
			for _, k := range order[at:] {
				if l[k].end < l[i].begin {
					return false
				}
			}
			p = q
		}
		return true
	}
	came := make([]bool, len(l))
	for _, i := range order {
		came[i] = true
	}
	for i := range l {
		if !came[i] && tryOrders(l, append(order[:len(order):len(order)], i)) {
			return true
		}
	}
	return false
}

// anyHistory: goroutines whose calls overlap by chance, answered as the plain list does in the order of some moment of each, but now and then one otherwise.
func anyHistory(r *rand.Rand) [][]call {
	calls := make([][]call, 2+r.Intn(2))
	open := make([]int, len(calls)) // by goroutine: 1, begun; 2, answered
	var p plain
	for clock := range 8 + r.Intn(12) {
		g := r.Intn(len(calls))
		last := len(calls[g]) - 1
		switch open[g] {
		case 0:
			calls[g] = append(calls[g], call{kind: r.Intn(kinds), n: r.Intn(3), begin: clock})
		case 1:
			c := &calls[g][last]
			q, did := p.do(c.kind, c.n)
			p, c.n, c.ok = q, did.n, did.ok
		case 2:
			calls[g][last].end = clock
		}
		open[g] = (open[g] + 1) % 3
	}
	for g, l := range calls {
		if open[g] > 0 {
			calls[g] = l[:len(l)-1]
		}
		if n := len(calls[g]); n > 0 && r.Intn(4) == 0 {
			c := &calls[g][r.Intn(n)]
			c.n = r.Intn(3)
			c.ok = c.kind != pushing && c.kind != asking && (c.n > 0 || r.Intn(2) == 0)
		}
	}
	return calls
}

func TestTheJudge(t *testing.T) {
	count := map[bool]int{}
	for seed := range 20000 {
		calls := anyHistory(rand.New(rand.NewSource(int64(seed))))
		var l []call
		for _, c := range calls {
			l = append(l, c...)
		}
		want := tryOrders(l, nil)
		if hasOrder(calls) != want {
			t.Fatalf("seed %d: %v: an order: %v, want %v", seed, calls, !want, want)
		}
		count[want]++
	}
	if count[true] < 4000 || count[false] < 4000 {
		t.Errorf("too few of a kind: %v", count)
	}
}
