package hist_test

import (
	"maps"
	"math/rand"
	"slices"
	"testing"

	"fugue/api"
)

// plainCheck: the chapter's words of a history, client by client.
func plainCheck(h []api.Moment) bool {
	begins, clients := 0, map[int][]api.Moment{}
	for _, m := range h {
		clients[m.Client] = append(clients[m.Client], m)
		if m.Begin {
			begins++
		}
	}
	for _, l := range clients {
		if len(l)%2 != 0 {
			return false
		}
		for i := 0; i < len(l); i += 2 {
			if !plainCall(l[i], l[i+1]) {
				return false
			}
		}
	}
	return begins <= 64
}

func plainCall(a, b api.Moment) bool {
	if !a.Begin || b.Begin || a.Op != b.Op || !alikeReply(a.Reply, no) {
		return false
	}
	r := b.Reply
	switch op := a.Op; op.Kind {
	case api.TPublish:
		return alikeReply(r, api.Reply{Ok: r.Ok})
	case api.TLookup:
		return op == look(op.Key) && (alikeReply(r, no) || alikeReply(r, got(r.Value)))
	case api.TSnapshot:
		strictly := slices.Compact(slices.Sorted(slices.Values(r.Keys)))
		return op == snap && r.Ok && r.Value == "" && len(r.Keys) == len(r.Values) && slices.Equal(r.Keys, strictly)
	}
	return false
}

func alikeReply(a, b api.Reply) bool {
	return a.Ok == b.Ok && a.Value == b.Value && slices.Equal(a.Keys, b.Keys) && slices.Equal(a.Values, b.Values)
}

// plainMap: the calls one behind the other.
type plainMap map[int]string

func (m plainMap) do(op api.Op) api.Reply {
	value, there := m[op.Key]
	switch op.Kind {
	case api.TPublish:
		if !there {
			m[op.Key] = op.Value
		}
		return api.Reply{Ok: !there}
	case api.TLookup:
		return api.Reply{Ok: there, Value: value}
	}
	r := yes
	for _, k := range slices.Sorted(maps.Keys(m)) {
		r.Keys, r.Values = append(r.Keys, k), append(r.Values, m[k])
	}
	return r
}

// plainEnds: by the place of each beginning that of its end.
func plainEnds(h []api.Moment) map[int]int {
	ends := map[int]int{}
	for at, m := range h {
		if m.Begin {
			ends[at] = at + 1 + slices.IndexFunc(h[at+1:], func(x api.Moment) bool { return x.Client == m.Client })
		}
	}
	return ends
}

// isOrder: does the plain map answer so in this order, which has each call once and keeps who was over before whom began?
func isOrder(h []api.Moment, order []int) bool {
	ends, m := plainEnds(h), plainMap{}
	if !slices.Equal(slices.Sorted(slices.Values(order)), slices.Sorted(maps.Keys(ends))) {
		return false
	}
	for i, at := range order {
		for _, later := range order[i:] {
			if ends[later] < at {
				return false
			}
		}
		if !alikeReply(m.do(h[at].Op), h[ends[at]].Reply) {
			return false
		}
	}
	return true
}

// permuted: all orders of a list, the least first, till one is good.
func permuted(l []int, at int, good func([]int) bool) bool {
	if at == len(l) {
		return good(l)
	}
	for i := at; i < len(l); i++ {
		next := slices.Clone(l)
		next[at] = l[i]
		copy(next[at+1:i+1], l[at:i]) // what is left keeps its order
		if permuted(next, at+1, good) {
			return true
		}
	}
	return false
}

// permutedOrder: the least order of a history of few calls, by nothing but the words of the promise.
func permutedOrder(h []api.Moment) ([]int, bool) {
	var order []int
	is := permuted(slices.Sorted(maps.Keys(plainEnds(h))), 0, func(l []int) bool {
		order = l
		return isOrder(h, l)
	})
	if !is {
		return nil, false
	}
	return order, true
}

// tryer: who tries call behind call, the least first, and turns back where the plain map answers otherwise.
type tryer struct {
	h     []api.Moment
	calls []int // the places of their beginnings
	ends  map[int]int
	order []int
	dead  map[uint64]bool // calls behind which, done in whatever order, it goes no further
}

func triedOrder(h []api.Moment) ([]int, bool) {
	x := tryer{h: h, ends: plainEnds(h), dead: map[uint64]bool{}}
	x.calls = slices.Sorted(maps.Keys(x.ends))
	is := x.try(0, plainMap{})
	return x.order, is
}

func (x *tryer) try(done uint64, m plainMap) bool {
	if len(x.order) == len(x.calls) {
		return true
	}
	if x.dead[done] {
		return false
	}
	for i, at := range x.calls {
		if done>>i&1 == 1 || x.waits(done, at) {
			continue
		}
		next := maps.Clone(m)
		if !alikeReply(next.do(x.h[at].Op), x.h[x.ends[at]].Reply) {
			continue
		}
		x.order = append(x.order, at)
		if x.try(done|1<<i, next) {
			return true
		}
		x.order = x.order[:len(x.order)-1]
	}
	x.dead[done] = true
	return false
}

// waits: is a call not done that was over before this one began?
func (x *tryer) waits(done uint64, at int) bool {
	for k, other := range x.calls {
		if done>>k&1 == 0 && x.ends[other] < at {
			return true
		}
	}
	return false
}

// Who tries finds what the words of the promise say, gone through order by order.
func TestTheTryer(t *testing.T) {
	count := map[bool]int{}
	for seed := range 4000 {
		r := rand.New(rand.NewSource(int64(seed)))
		h := turned(r, anyHistory(r, 1+r.Intn(4), r.Intn(6)), r.Intn(3))
		want, is := permutedOrder(h)
		if l, ok := triedOrder(h); ok != is || !slices.Equal(l, want) {
			t.Fatalf("seed %d: %+v: %v, %v, want %v, %v", seed, h, l, ok, want, is)
		}
		count[is]++
	}
	if count[true] < 500 || count[false] < 500 {
		t.Errorf("too few of a kind: %v", count)
	}
}
