package table_test

import (
	"math/rand"
	"testing"

	"fugue/api"
)

// call: one of a history: what was called, what it answered, when it began and when it ended.
type call struct {
	op         api.Op
	reply      api.Reply
	begin, end int
}

// callsOf: the calls of a history, and whether each beginning has its end.
func callsOf(h []api.Moment) ([]call, bool) {
	var l []call
	in := map[int]int{} // by client: the place of the call that it is in
	for at, m := range h {
		i, is := in[m.Client]
		switch {
		case m.Begin && !is:
			in[m.Client] = len(l)
			l = append(l, call{op: m.Op, begin: at})
		case !m.Begin && is && l[i].op == m.Op:
			l[i].reply, l[i].end = m.Reply, at
			delete(in, m.Client)
		default:
			return nil, false
		}
	}
	return l, len(in) == 0
}

// winners: by key the Publish that was new, and whether no key has two.
func winners(l []call) (map[int]int, bool) {
	won := map[int]int{}
	for i, c := range l {
		if c.op.Kind == api.TPublish && c.reply.Ok {
			if _, is := won[c.op.Key]; is {
				return nil, false
			}
			won[c.op.Key] = i
		}
	}
	return won, true
}

// seen: the keys that a call found with a value, and those that it found without one, among the keys of which it says anything; and whether it could find them so.
func seen(l []call, won map[int]int, c call) (with, without []int, could bool) {
	switch {
	case c.op.Kind == api.TPublish && c.reply.Ok:
		return nil, nil, true
	case c.op.Kind == api.TSnapshot:
		told := map[int]bool{}
		for i, k := range c.reply.Keys {
			told[k] = true
			if w, is := won[k]; !is || l[w].op.Value != c.reply.Values[i] {
				return nil, nil, false
			}
		}
		for k := range won {
			if !told[k] {
				without = append(without, k)
			}
		}
		return c.reply.Keys, without, true
	}
	w, is := won[c.op.Key]
	if c.op.Kind == api.TLookup && !c.reply.Ok {
		if is {
			without = append(without, c.op.Key)
		}
		return nil, without, true
	}
	return []int{c.op.Key}, nil, is && (c.op.Kind == api.TPublish || l[w].op.Value == c.reply.Value)
}

// hasOrder: is there an order of the calls that keeps who was over before whom began, and in which the plain map answers so?
func hasOrder(l []call) bool {
	won, could := winners(l)
	if !could {
		return false
	}
	ahead := make([][]int, len(l)) // by call: those that stand behind it
	for i, c := range l {
		with, without, could := seen(l, won, c)
		if !could {
			return false
		}
		for _, k := range with {
			ahead[won[k]] = append(ahead[won[k]], i)
		}
		for _, k := range without {
			ahead[i] = append(ahead[i], won[k])
		}
		for k, d := range l {
			if c.end < d.begin {
				ahead[i] = append(ahead[i], k)
			}
		}
	}
	return noRing(ahead)
}

func noRing(ahead [][]int) bool {
	before := make([]int, len(ahead))
	for _, l := range ahead {
		for _, i := range l {
			before[i]++
		}
	}
	var free []int
	for i, n := range before {
		if n == 0 {
			free = append(free, i)
		}
	}
	for at := 0; at < len(free); at++ {
		for _, i := range ahead[free[at]] {
			if before[i]--; before[i] == 0 {
				free = append(free, i)
			}
		}
	}
	return len(free) == len(ahead)
}

// tryOrders: the same by trying all orders.
func tryOrders(l []call, done []bool, order []int) bool {
	if len(order) == len(l) {
		m := plainMap{}
		for _, i := range order {
			if !alikeReply(m.do(l[i].op), l[i].reply) {
				return false
			}
		}
		return true
	}
next:
	for i, c := range l {
		if done[i] {
			continue
		}
		for k, d := range l {
			if !done[k] && d.end < c.begin {
				continue next
			}
		}
		done[i] = true
		is := tryOrders(l, done, append(order, i))
		done[i] = false
		if is {
			return true
		}
	}
	return false
}

// What judges the histories is right itself: of short ones, true and spoiled, it says what trying all orders says.
func TestTheJudgeOfOrders(t *testing.T) {
	count := map[bool]int{}
	for seed := range 20000 {
		r := rand.New(rand.NewSource(int64(seed)))
		m := plainMap{}
		var l []call
		for i := range 2 + r.Intn(5) {
			op := []api.Op{pub(r.Intn(2), "a"), pub(r.Intn(2), "b"), look(r.Intn(2)), snap}[r.Intn(4)]
			at := 10 * i
			l = append(l, call{op, m.do(op), at - r.Intn(12), at + r.Intn(12)})
		}
		for range r.Intn(6) {
			i, k := r.Intn(len(l)), r.Intn(len(l))
			if l[i].op.Kind == l[k].op.Kind {
				l[i].reply, l[k].reply = l[k].reply, l[i].reply
			}
		}
		want := tryOrders(l, make([]bool, len(l)), nil)
		if hasOrder(l) != want {
			t.Fatalf("seed %d: %+v: an order: %v, want %v", seed, l, !want, want)
		}
		count[want]++
	}
	if count[true] < 2000 || count[false] < 2000 {
		t.Errorf("too few of a kind: %v", count)
	}
}
