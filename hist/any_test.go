package hist_test

import (
	"math/rand"
	"slices"

	"fugue/api"
)

var someKeys = []int{1, 2, -3}

var someValues = []string{"", "a", "b"}

func one[T any](r *rand.Rand, l []T) T { return l[r.Intn(len(l))] }

// anyOp: of few keys and values, so that calls meet.
func anyOp(r *rand.Rand) api.Op {
	return []api.Op{pub(one(r, someKeys), one(r, someValues)), look(one(r, someKeys)), look(one(r, someKeys)), snap}[r.Intn(4)]
}

// anyHistory: so many calls of so many clients, each of which takes effect at a moment between its beginning and its end: so there is an order.
func anyHistory(r *rand.Rand, clients, calls int) []api.Moment {
	const outside, begun, done = 0, 1, 2
	var h []api.Moment
	m, state, ops, replies := plainMap{}, make([]int, clients), make([]api.Op, clients), make([]api.Reply, clients)
	for left, open := calls, 0; left+open > 0; {
		c := r.Intn(clients)
		switch {
		case state[c] == outside && left > 0:
			left, open = left-1, open+1
			state[c], ops[c] = begun, anyOp(r)
			h = append(h, begin(c, ops[c]))
		case state[c] == begun:
			state[c], replies[c] = done, m.do(ops[c])
		case state[c] == done:
			open--
			state[c] = outside
			h = append(h, end(c, ops[c], replies[c]))
		}
	}
	return h
}

// turned: so many answers are others, which calls of their kinds may have too.
func turned(r *rand.Rand, h []api.Moment, many int) []api.Moment {
	h = slices.Clone(h)
	for range many {
		if len(h) == 0 {
			break
		}
		at := r.Intn(len(h))
		for h[at].Begin {
			at = r.Intn(len(h))
		}
		h[at].Reply = otherReply(r, h[at].Op.Kind, h[at].Reply)
	}
	return h
}

func otherReply(r *rand.Rand, kind int, was api.Reply) api.Reply {
	switch {
	case kind == api.TPublish:
		return api.Reply{Ok: !was.Ok}
	case kind == api.TLookup && was.Ok && r.Intn(2) == 0:
		return no
	case kind == api.TLookup:
		return got(one(r, someValues))
	}
	m := plainMap{}
	for i, k := range was.Keys {
		m[k] = was.Values[i]
	}
	if k := one(r, someKeys); r.Intn(2) == 0 {
		m[k] = one(r, someValues)
	} else {
		delete(m, k)
	}
	return m.do(snap)
}
