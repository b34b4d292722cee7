package hist_test

import (
	"math"
	"slices"
	"strings"
	"testing"

	"fugue/api"
	"fugue/hist"
)

// upTo: the numbers below many, and others behind them.
func upTo(many int, behind ...int) []int {
	var l []int
	for i := range many {
		l = append(l, i)
	}
	return append(l, behind...)
}

func same[T any](x T) func(int) T { return func(int) T { return x } }

// lastIs: x, of the last of so many; else y.
func lastIs[T any](many int, x, y T) func(int) T {
	return func(i int) T {
		if i == many-1 {
			return x
		}
		return y
	}
}

// 64 calls at one time have more orders than could ever be tried.
func TestAllAtOneTime(t *testing.T) {
	const all = 64
	soon(t, func() {
		ordered(t, "Lookups", overlapping(all, look, same(no)), upTo(all)...)
		ordered(t, "Publishes", overlapping(all, func(i int) api.Op { return pub(i, "") }, same(yes)), upTo(all)...)
		ordered(t, "Snapshots", overlapping(all, same(snap), same(yes)), upTo(all)...)
		ordered(t, "the last Publish is Ok", overlapping(all, same(pub(1, "a")), lastIs(all, yes, no)), append([]int{all - 1}, upTo(all-1)...)...)
		ordered(t, "all find the last one", overlapping(all, lastIs(all, pub(1, "a"), look(1)), lastIs(all, yes, got("a"))), append([]int{all - 1}, upTo(all-1)...)...)
		ordered(t, "all miss the last one", overlapping(all, lastIs(all, pub(1, "a"), look(1)), lastIs(all, yes, no)), upTo(all)...)
		notOrdered(t, "two Publishes are Ok", overlapping(all, same(pub(1, "a")), func(i int) api.Reply { return api.Reply{Ok: i == 0 || i == all-1} }))
		notOrdered(t, "none is Ok", overlapping(all, same(pub(1, "a")), same(no)))
		notOrdered(t, "a value of none", overlapping(all, lastIs(all, pub(1, "a"), look(1)), func(i int) api.Reply {
			if i == 5 {
				return got("b")
			}
			return lastIs(all, yes, got("a"))(i)
		}))
	})
}

// halves: 32 Publishes of a key each, and 32 Snapshots, all at one time.
func halves(told func(i int) api.Reply) []api.Moment {
	return overlapping(64, func(i int) api.Op {
		if i < 32 {
			return pub(i, "")
		}
		return snap
	}, func(i int) api.Reply {
		if i < 32 {
			return yes
		}
		return told(i - 32)
	})
}

func TestSnapshotsAtOneTime(t *testing.T) {
	soon(t, func() {
		ordered(t, "of all", halves(same(keys(upTo(32)...))), upTo(64)...)
		ordered(t, "of none", halves(same(keys())), append(upTo(64)[32:], upTo(32)...)...)
		ordered(t, "of the first ones", halves(func(i int) api.Reply { return keys(upTo(i)...) }), func() []int {
			var l []int
			for i := range 32 {
				l = append(l, 32+i, i)
			}
			return l
		}()...)
		notOrdered(t, "of one each", halves(func(i int) api.Reply { return keys(i) }))
		notOrdered(t, "of all but one each", halves(func(i int) api.Reply { return keys(slices.Delete(upTo(32), i, i+1)...) }))
		notOrdered(t, "of one more than there is", halves(func(i int) api.Reply { return keys(upTo(32 + i/31)...) }))
		for k := range 31 { // all the same but two, which tell different ones
			notOrdered(t, "of two that do not fit", halves(func(i int) api.Reply {
				switch i {
				case k:
					return keys(0)
				case k + 1:
					return keys(31)
				}
				return keys(upTo(32)...)
			}))
		}
	})
}

// One client's 64 calls have the order in which they were made, or none.
func TestAllInARow(t *testing.T) {
	var h []api.Moment
	var want []int
	m := plainMap{}
	for i := range 64 {
		op := []api.Op{pub(i/5, "a"), look(i / 3), snap, pub(i/7, "b")}[i%4]
		want = append(want, len(h))
		h = append(h, begin(-4, op), end(-4, op, m.do(op)))
	}
	ordered(t, "in a row", h, want...)
	for i := 1; i < len(h); i += 2 {
		for _, r := range []api.Reply{{Ok: !h[i].Reply.Ok}, got("c"), keys(0)} {
			if x := slices.Clone(h); !alikeReply(r, x[i].Reply) {
				x[i].Reply = r
				if plainCheck(x) {
					notOrdered(t, "in a row, one answer turned", x)
				}
			}
		}
	}
}

func TestKeysAtTheEnds(t *testing.T) {
	edges := []int{math.MinInt, math.MinInt + 1, -1 << 32, -1, 0, 1, 1 << 32, math.MaxInt - 1, math.MaxInt}
	var h []api.Moment
	var want []int
	for i := range edges {
		k := edges[(i*4)%len(edges)]
		want = append(want, len(h), len(h)+2)
		h = append(h, begin(1, pub(k, "a")), end(1, pub(k, "a"), yes), begin(1, look(k)), end(1, look(k), got("a")))
	}
	all := api.Reply{Ok: true, Keys: edges, Values: slices.Repeat([]string{"a"}, len(edges))}
	ordered(t, "with all keys", append(h[:len(h):len(h)], begin(0, snap), end(0, snap, all)), append(want, len(h))...)
	for i := range edges {
		less := api.Reply{Ok: true, Keys: slices.Delete(slices.Clone(edges), i, i+1), Values: all.Values[1:]}
		notOrdered(t, "with all keys but one", append(h[:len(h):len(h)], begin(0, snap), end(0, snap, less)))
		last := h[4*((i*7)%len(edges)):][:2] // edges[i] is the key of that one
		rest := slices.DeleteFunc(slices.Clone(h), func(m api.Moment) bool { return m.Op.Key == edges[i] })
		if last[0].Op.Key != edges[i] {
			t.Fatal("the test's own numbers")
		}
		x := slices.Concat(rest, []api.Moment{begin(0, snap), end(0, snap, less)}, last)
		if _, is, e := hist.Order(x); !is || e != api.OK {
			t.Errorf("P23.2: without the key %d: %v, error %d", edges[i], is, e)
		}
	}
}

func TestLongTexts(t *testing.T) {
	long := strings.Repeat("x", 1<<20)
	other := long[1:] + "y"
	ordered(t, "found", []api.Moment{begin(0, pub(1, long)), begin(1, look(1)), end(0, pub(1, long), yes), end(1, look(1), got(strings.Clone(long)))}, 0, 1)
	notOrdered(t, "another at the end", []api.Moment{begin(0, pub(1, long)), begin(1, look(1)), end(0, pub(1, long), yes), end(1, look(1), got(other))})
	isNone(t, "another Op at the end", []api.Moment{begin(0, pub(1, long)), end(0, pub(1, other), yes)})
}

// Snapshots of more keys than there can be calls: it is a history, but nobody has published them.
func TestManyKeys(t *testing.T) {
	const many = 1 << 20
	h := halves(same(keys(upTo(many)...)))
	soon(t, func() {
		if l, is, e := hist.Order(h); len(l) != 0 || is || e != api.OK || hist.Check(h) != api.OK {
			t.Errorf("P23.2: Snapshots of %d keys: %v, %v, error %d", many, l, is, e)
		}
		h[len(h)-1].Reply = keys(upTo(many, many-1)...)
		if l, is, e := hist.Order(h); len(l) != 0 || is || e != api.ErrHistory || hist.Check(h) != e {
			t.Errorf("P23.1: the last of %d keys twice: %v, %v, error %d", many, l, is, e)
		}
	})
}

func TestManyMoments(t *testing.T) {
	const many = 1 << 18
	row := slices.Repeat(of(t, "0+l1 0-no"), many/2)
	begun := make([]api.Moment, many)
	for i := range begun {
		begun[i] = begin(i, look(i))
	}
	soon(t, func() {
		for _, h := range [][]api.Moment{row, begun} {
			if e := hist.Check(h); e != api.ErrHistory {
				t.Errorf("P23.1: of %d moments: error %d", many, e)
			}
			if l, is, e := hist.Order(h); len(l) != 0 || is || e != api.ErrHistory {
				t.Errorf("P23.2: of %d moments: %v, %v, error %d", many, l, is, e)
			}
		}
	})
}
