package table_test

import (
	"maps"
	"math/big"
	"slices"

	"fugue/api"
)

// plainMap: the calls one behind the other.
type plainMap map[int]string

func (m plainMap) do(op api.Op) api.Reply {
	value, there := m[op.Key]
	switch op.Kind {
	case api.TPublish:
		if !there {
			m[op.Key] = op.Value
		}
		return api.Reply{Ok: !there}
	case api.TLookup:
		return api.Reply{Ok: there, Value: value}
	}
	r := api.Reply{Ok: true}
	for _, k := range slices.Sorted(maps.Keys(m)) {
		r.Keys, r.Values = append(r.Keys, k), append(r.Values, m[k])
	}
	return r
}

// plainStep: one of a client's steps: which call it belongs to, what it does, and the stripe that it needs or locks (-1: none).
type plainStep struct {
	call, does, stripe int
}

const (
	begins = iota
	locks
	acts
	ends
)

// plainSteps: all steps of a client, written down ahead of the play.
func plainSteps(calls []api.Op) []plainStep {
	var l []plainStep
	for i, op := range calls {
		switch op.Kind {
		case api.TPublish, api.TLookup:
			l = append(l, plainStep{i, begins, -1}, plainStep{i, acts, plainMod(op.Key, 8)}, plainStep{i, ends, -1})
		case api.TSnapshot:
			l = append(l, plainStep{i, begins, -1})
			for s := range 8 {
				l = append(l, plainStep{i, locks, s})
			}
			l = append(l, plainStep{i, acts, -1}, plainStep{i, ends, -1})
		}
	}
	return l
}

func plainMod(k, n int) int {
	return int(new(big.Int).Mod(big.NewInt(int64(k)), big.NewInt(int64(n))).Int64())
}

// plainPicks: the picks of the chapter's words, of a list of who can go on that is asked for anew each time.
func plainPicks(many int, script []int, canGoOn func(int) bool, step func(int)) {
	last := -1
	for {
		var able []int
		for i := range many {
			if canGoOn(i) {
				able = append(able, i)
			}
		}
		if len(able) == 0 {
			return
		}
		if len(script) > 0 {
			last, script = able[plainMod(script[0], len(able))], script[1:]
		} else {
			for last = (last + 1) % many; !slices.Contains(able, last); {
				last = (last + 1) % many
			}
		}
		step(last)
	}
}

// plainPlay: a play as the chapter's words have it.
func plainPlay(clients [][]api.Op, script []int) []api.Moment {
	if len(clients) > 64 {
		return nil
	}
	h, _ := plainPlayOrder(clients, script)
	return h
}

// plainPlayOrder: the history, and the clients in the order in which their calls took effect.
func plainPlayOrder(clients [][]api.Op, script []int) ([]api.Moment, []int) {
	var h []api.Moment
	var order []int
	m, locked, steps, replies := plainMap{}, map[int]bool{}, [][]plainStep{}, make([]api.Reply, len(clients))
	for _, calls := range clients {
		steps = append(steps, plainSteps(calls))
	}
	canGoOn := func(i int) bool { return len(steps[i]) > 0 && !locked[steps[i][0].stripe] }
	plainPicks(len(clients), script, canGoOn, func(i int) {
		s := steps[i][0]
		steps[i] = steps[i][1:]
		op := clients[i][s.call]
		switch s.does {
		case begins:
			h = append(h, api.Moment{Client: i, Begin: true, Op: op})
		case locks:
			locked[s.stripe] = true
		case acts:
			replies[i] = m.do(op)
			order = append(order, i)
			if op.Kind == api.TSnapshot {
				clear(locked)
			}
		case ends:
			h = append(h, api.Moment{Client: i, Op: op, Reply: replies[i]})
		}
	})
	return h, order
}
