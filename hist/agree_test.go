package hist_test

import (
	"math/rand"
	"slices"
	"sync"
	"testing"

	"fugue/api"
	"fugue/hist"
	"fugue/table"
)

// agrees: Order says what going through the orders says.
func agrees(t *testing.T, h []api.Moment, by func([]api.Moment) ([]int, bool)) bool {
	t.Helper()
	want, is := by(h)
	if l, ok, e := hist.Order(h); e != api.OK || ok != is || !slices.Equal(l, want) {
		t.Fatalf("P23.2: %v, %v, error %d, want %v, %v: %+v", l, ok, e, want, is, h)
	}
	return is
}

// interleaved: all histories of calls of as many clients, each with one of the answers that its kind may have.
func interleaved(ops []api.Op, answers func(api.Op) []api.Reply, each func([]api.Moment)) {
	state, h := make([]int, len(ops)), []api.Moment(nil)
	var next func()
	next = func() {
		if len(h) == 2*len(ops) {
			each(h)
		}
		for c, op := range ops {
			if state[c] == 2 {
				continue
			}
			l := []api.Moment{begin(c, op)}
			if state[c] == 1 {
				l = nil
				for _, r := range answers(op) {
					l = append(l, end(c, op, r))
				}
			}
			state[c]++
			for _, m := range l {
				h = append(h, m)
				next()
				h = h[:len(h)-1]
			}
			state[c]--
		}
	}
	next()
}

// All histories of two calls, and of three of one key.
func TestAllShortHistories(t *testing.T) {
	a := func(keys ...int) api.Reply {
		return api.Reply{Ok: true, Keys: keys, Values: slices.Repeat([]string{"a"}, len(keys))}
	}
	answers := func(op api.Op) []api.Reply {
		switch op.Kind {
		case api.TPublish:
			return []api.Reply{no, yes}
		case api.TLookup:
			return []api.Reply{no, got("a"), got("b")}
		}
		return []api.Reply{yes, a(1), {Ok: true, Keys: []int{1}, Values: []string{"b"}}, a(2), a(1, 2)}
	}
	count := map[bool]int{}
	each := func(h []api.Moment) { count[agrees(t, h, permutedOrder)]++ }
	all := []api.Op{pub(1, "a"), pub(1, "b"), pub(2, "a"), look(1), look(2), snap}
	for _, x := range all {
		for _, y := range all {
			interleaved([]api.Op{x, y}, answers, each)
		}
	}
	few := []api.Op{all[0], all[1], all[3], all[5]}
	for _, x := range few {
		for _, y := range few {
			for _, z := range few {
				interleaved([]api.Op{x, y, z}, answers, each)
			}
		}
	}
	if count[true] < 5000 || count[false] < 50000 {
		t.Errorf("too few of a kind: %v", count)
	}
}

func TestAnyHistory(t *testing.T) {
	count := map[bool]int{}
	for seed := range 12000 {
		r := rand.New(rand.NewSource(int64(seed)))
		h := anyHistory(r, 1+r.Intn(6), r.Intn(10))
		if !agrees(t, h, triedOrder) {
			t.Fatalf("P23.2: seed %d: there is an order, that of the effects: %+v", seed, h)
		}
		count[agrees(t, turned(r, h, 1), triedOrder)]++
		count[agrees(t, turned(r, h, 2+r.Intn(2)), triedOrder)]++
	}
	if count[true] < 3000 || count[false] < 3000 {
		t.Errorf("too few of a kind: %v", count)
	}
}

func TestAnyLongHistory(t *testing.T) {
	count := map[bool]int{}
	for seed := range 300 {
		r := rand.New(rand.NewSource(int64(seed)))
		h := anyHistory(r, 2+r.Intn(2), 50+r.Intn(15))
		if !agrees(t, h, triedOrder) {
			t.Fatalf("P23.2: seed %d: there is an order, that of the effects: %+v", seed, h)
		}
		count[agrees(t, turned(r, h, 1), triedOrder)]++
	}
	if count[true] < 10 || count[false] < 100 {
		t.Errorf("too few of a kind: %v", count)
	}
}

// hasOrder: a history that has an order has this one.
func hasOrder(t *testing.T, what string, h []api.Moment) {
	t.Helper()
	if l, is, e := hist.Order(h); e != api.OK || !is || !isOrder(h, l) {
		t.Fatalf("W4: %s: %v, %v, error %d: %+v", what, l, is, e, h)
	}
}

// anyClients: so many of them with so many calls in all, each Op of which is right.
func anyClients(r *rand.Rand, many, calls int) [][]api.Op {
	l := make([][]api.Op, many)
	for range calls {
		i := r.Intn(many)
		l[i] = append(l[i], anyOp(r))
	}
	return l
}

func anyScript(r *rand.Rand) []int {
	l := make([]int, r.Intn(400))
	for i := range l {
		l[i] = int(r.Uint64())
	}
	return l
}

// Of few clients the least order is found by trying too.
func TestPlaysOfFew(t *testing.T) {
	for seed := range 3000 {
		r := rand.New(rand.NewSource(int64(seed)))
		h := table.Play(anyClients(r, 1+r.Intn(5), r.Intn(14)), anyScript(r)...)
		hasOrder(t, "a play", h)
		agrees(t, h, triedOrder)
		agrees(t, turned(r, h, 1), triedOrder)
	}
}

func TestPlaysOfMany(t *testing.T) {
	for seed := range 2000 {
		r := rand.New(rand.NewSource(int64(seed)))
		clients := anyClients(r, 1+r.Intn(64), 64)
		hasOrder(t, "a play", table.Play(clients, anyScript(r)...))
		hasOrder(t, "a play without a script", table.Play(clients))
	}
}

// A play with an Op that is not right is none, one of too many calls neither.
func TestPlaysThatAreNoHistories(t *testing.T) {
	for _, op := range []api.Op{{Kind: api.TLookup, Value: "a"}, {Kind: api.TSnapshot, Value: "a"}, {Kind: api.TSnapshot, Key: 1}} {
		isNone(t, "an Op that is not right", table.Play([][]api.Op{{pub(1, "a"), op}, {look(1)}}, 1, 0, 1))
	}
	isHistory(t, "a kind that is passed over", table.Play([][]api.Op{{pub(1, "a"), {Kind: 7, Value: "a"}}, {look(1)}}, 1, 0, 1))
	isHistory(t, "64 calls", table.Play([][]api.Op{slices.Repeat([]api.Op{snap}, 32), slices.Repeat([]api.Op{look(1)}, 32)}))
	isNone(t, "65 calls", table.Play([][]api.Op{slices.Repeat([]api.Op{snap}, 32), slices.Repeat([]api.Op{look(1)}, 33)}))
}

// recorder: who writes down what goroutines ask of a table, and are answered.
type recorder struct {
	sync.Mutex
	h []api.Moment
}

func (r *recorder) add(m api.Moment) {
	r.Lock()
	defer r.Unlock()
	r.h = append(r.h, m)
}

func called(x *table.Table, op api.Op) (r api.Reply) {
	switch op.Kind {
	case api.TPublish:
		r.Ok = x.Publish(op.Key, op.Value)
	case api.TLookup:
		r.Value, r.Ok = x.Lookup(op.Key)
	case api.TSnapshot:
		r.Ok = true
		r.Keys, r.Values = x.Snapshot()
	}
	return r
}

func TestGoroutinesAtATable(t *testing.T) {
	for seed := range 500 {
		r := rand.New(rand.NewSource(int64(seed)))
		x, told := table.New(), recorder{}
		var all sync.WaitGroup
		for c, ops := range anyClients(r, 1+r.Intn(8), 64) {
			all.Go(func() {
				for _, op := range ops {
					told.add(begin(c, op))
					told.add(end(c, op, called(x, op)))
				}
			})
		}
		all.Wait()
		hasOrder(t, "goroutines at a table", told.h)
	}
}

// spoilt: a moment more, one less, two in each other's place, or one changed.
func spoilt(r *rand.Rand, h []api.Moment) []api.Moment {
	i, k := r.Intn(len(h)), r.Intn(len(h))
	switch r.Intn(6) {
	case 0:
		return slices.Insert(slices.Clone(h), i, h[k])
	case 1:
		return slices.Delete(slices.Clone(h), i, i+1)
	case 2:
		h = slices.Clone(h)
		h[i], h[k] = h[k], h[i]
		return h
	}
	h = slices.Clone(h)
	switch m := &h[i]; r.Intn(6) {
	case 0:
		m.Client = r.Intn(3)
	case 1:
		m.Begin = !m.Begin
	case 2:
		m.Op = h[k].Op
	case 3:
		m.Reply = h[k].Reply
	case 4:
		m.Reply.Ok = !m.Reply.Ok
	default:
		m.Op.Value, m.Reply.Value = h[k].Reply.Value, h[k].Op.Value
	}
	return h
}

func TestAnySpoiltHistory(t *testing.T) {
	right := 0
	for seed := range 20000 {
		r := rand.New(rand.NewSource(int64(seed)))
		h := anyHistory(r, 1+r.Intn(3), 1+r.Intn(6))
		for range 1 + r.Intn(2) {
			if len(h) > 0 {
				h = spoilt(r, h)
			}
		}
		if !plainCheck(h) {
			isNone(t, "spoilt", h)
			continue
		}
		right++
		isHistory(t, "changed", h)
		agrees(t, h, triedOrder)
	}
	if right < 2000 || right > 18000 {
		t.Errorf("of all %d are histories", right)
	}
}
