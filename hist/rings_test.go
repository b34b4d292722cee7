package hist_test

import (
	"fmt"
	"slices"
	"testing"

	"fugue/api"
)

func TestShortRings(t *testing.T) {
	holds(t, []row{
		{"two: found ahead of it", "0+l1 0-ok=a 1+p1=a 1-ok", nil},
		{"two: missed behind it", "0+p1=a 0-ok 1+l1 1-no", nil},
		{"two: not Ok ahead of it", "0+p1=b 0-no 1+p1=a 1-ok", nil},
		{"two: a Snapshot with it, ahead of it", "0+s 0-all:1=a 1+p1=a 1-ok", nil},
		{"two: a Snapshot without it, behind it", "0+p1=a 0-ok 1+s 1-all:", nil},
		{"two: both are Ok", "0+p1=a 1+p1=b 0-ok 1-ok", nil},
		{"three: found, then missed", "0+p1=a 1+l1 1-ok=a 1+l1 1-no 0-ok", nil},
		{"three: missed, then found", "0+p1=a 1+l1 1-no 1+l1 1-ok=a 0-ok", []int{1, 0, 3}},
		{"three: at one time", "0+p1=a 1+l1 2+l1 1-ok=a 2-no 0-ok", []int{2, 0, 1}},
		{"three: not Ok, then missed", "0+p1=a 1+p1=b 1-no 1+l1 1-no 0-ok", nil},
		{"three: not Ok, then a Snapshot without it", "0+p1=a 1+p1=b 1-no 1+s 1-all: 0-ok", nil},
		{"three: a Snapshot with it, then one without it", "0+p1=a 1+s 1-all:1=a 1+s 1-all: 0-ok", nil},
		{"three: the clock through two and a rule", "0+l1 0-ok=a 1+l2 1-no 2+p1=a 2-ok", nil},
		{"three: a Snapshot with the second without the first", "0+s 1+p1=a 1-ok 1+p2=b 1-ok 0-all:2=b", nil},
		{"three: the other way round", "0+s 1+p2=b 1-ok 1+p1=a 1-ok 0-all:2=b", []int{1, 0, 3}},
		{"four: rules alone", "0+s 1+s 2+p1=a 3+p2=b 0-all:1=a 1-all:2=b 2-ok 3-ok", nil},
		{"four: with one of them more", "0+s 1+s 2+p1=a 3+p2=b 0-all:1=a 1-all:1=a,2=b 2-ok 3-ok", []int{2, 0, 3, 1}},
		{"four: the clock twice", "0+p1=a 1+l1 2+l2 1-ok=a 1+p2=b 2-ok=b 2+l1 2-no 1-ok 0-ok", nil},
		{"four: the clock once", "0+p1=a 1+s 2+p2=b 2-ok 3+l1 3-no 1-all:1=a 0-ok", nil},
		{"four: the clock once, and the Snapshot tells both", "0+p1=a 1+s 2+p2=b 2-ok 3+l1 3-no 1-all:1=a,2=b 0-ok", []int{2, 4, 0, 1}},
		{"five: found, then published, found, then missed", "0+p1=a 1+l1 1-ok=a 1+p2=b 2+l2 2-ok=b 2+l1 2-no 1-ok 0-ok", nil},
		{"five: the last one finds it", "0+p1=a 1+l1 1-ok=a 1+p2=b 2+l2 2-ok=b 2+l1 2-ok=a 1-ok 0-ok", []int{0, 1, 3, 4, 6}},
	})
}

// readers: so many Publishes at one time, and as many readers, one behind the other, each of which finds one key and then asks for the next one, round the ring; just the last one may find that too.
func readers(many int, last api.Reply) []api.Moment {
	var h []api.Moment
	for i := range many {
		h = append(h, begin(i, pub(i, "a")))
	}
	for i := range many {
		next, reply := (i+1)%many, no
		if i == many-1 {
			reply = last
		}
		h = append(h, begin(many+i, look(i)), end(many+i, look(i), got("a")), begin(many+i, look(next)), end(many+i, look(next), reply))
	}
	for i := range many {
		h = append(h, end(i, pub(i, "a"), yes))
	}
	return h
}

// Each key's Publish stands ahead of the next one's, and the last answer says whether the last one's stands ahead of the first.
func TestLongRings(t *testing.T) {
	for many := 1; many <= 21; many++ {
		var want []int
		for i := range many {
			want = append(want, i, many+4*i, many+4*i+2)
		}
		ordered(t, fmt.Sprintf("%d calls one behind the other", 3*many), readers(many, got("a")), want...)
		notOrdered(t, fmt.Sprintf("a ring of %d calls", 3*many), readers(many, no))
	}
}

// onions: Snapshots at one time with so many Publishes; the i-th tells the last i of them, and the one that is spoilt the first as well.
func onions(many, spoilt int) []api.Moment {
	told := func(i int) []int {
		var l []int
		for k := many - i; k < many; k++ {
			l = append(l, k)
		}
		if i == spoilt && i < many {
			l = append([]int{0}, l...)
		}
		return l
	}
	return overlapping(2*many+1, func(i int) api.Op {
		if i < many {
			return pub(i, "")
		}
		return snap
	}, func(i int) api.Reply {
		if i < many {
			return yes
		}
		return keys(told(i - many)...)
	})
}

// The Snapshots say by themselves in what order the Publishes stand: each behind those that it tells, ahead of the others.
func TestSnapshotsSayTheOrder(t *testing.T) {
	for many := 1; many <= 31; many++ {
		want := []int{many}
		for i := range many {
			want = append(want, many-1-i, many+1+i)
		}
		ordered(t, "Snapshots", onions(many, -1), want...)
		for spoilt := range many - 1 { // the one but the last tells the first last of all: all Publishes may stand so
			notOrdered(t, "a Snapshot that tells another one", onions(many, spoilt))
		}
	}
}

// A ring among calls that nothing else hangs on, and one that all hang on: whatever stands beside it.
func TestRingsBesideOthers(t *testing.T) {
	ring := of(t, "90+p99=a 91+l99 91-ok=a 91+l99 91-no 90-ok")
	for many := range 30 {
		calls := overlapping(many, func(i int) api.Op { return pub(i, "x") }, func(int) api.Reply { return yes })
		notOrdered(t, "behind others", slices.Concat(calls, ring))
		notOrdered(t, "ahead of others", slices.Concat(ring, calls))
		notOrdered(t, "among others", slices.Concat(calls[:many], ring, calls[many:]))
	}
}
