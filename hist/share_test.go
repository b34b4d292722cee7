package hist_test

import (
	"math/rand"
	"reflect"
	"slices"
	"sync"
	"testing"

	"fugue/api"
	"fugue/hist"
)

const mark = -77 // stands in spare room

// roomy: the same list with spare room behind it, in which more stands.
func roomy[T any](l []T, more T) []T {
	return append(append(make([]T, 0, len(l)+2), l...), more, more)[:len(l)]
}

// full: a list with its spare room, in new memory.
func full[T any](l []T) []T { return slices.Clone(l[:cap(l)]) }

func fill[T any](l []T, x T) {
	l = l[:cap(l)]
	for i := range l {
		l[i] = x
	}
}

// withRoom: the same history, each list of it with spare room.
func withRoom(h []api.Moment) []api.Moment {
	h = roomy(h, begin(mark, api.Op{Kind: mark}))
	for i := range h {
		h[i].Reply.Keys, h[i].Reply.Values = roomy(h[i].Reply.Keys, mark), roomy(h[i].Reply.Values, "spare")
	}
	return h
}

// inIt: all that stands in a history, in spare room too, in new memory.
func inIt(h []api.Moment) []api.Moment {
	h = full(h)
	for i, m := range h {
		h[i].Reply.Keys, h[i].Reply.Values = full(m.Reply.Keys), full(m.Reply.Values)
	}
	return h
}

func wipe(h []api.Moment) {
	for _, m := range h {
		fill(m.Reply.Keys, mark)
		fill(m.Reply.Values, "wiped")
	}
	fill(h, api.Moment{Client: mark})
}

// anyGiven: a history with an order, one with none, or none.
func anyGiven(seed int) []api.Moment {
	r := rand.New(rand.NewSource(int64(seed)))
	h := turned(r, anyHistory(r, 1+r.Intn(6), r.Intn(64)), r.Intn(2))
	if len(h) > 0 && r.Intn(4) == 0 {
		h = spoilt(r, h)
	}
	return withRoom(h)
}

type answer struct {
	order []int
	is    bool
	e, f  api.Errno
}

func asked(h []api.Moment) answer {
	l, is, e := hist.Order(h)
	return answer{l, is, e, hist.Check(h)}
}

func (a answer) same(b answer) bool {
	return slices.Equal(a.order, b.order) && a.is == b.is && a.e == b.e && a.f == b.f
}

func TestArgumentsStay(t *testing.T) {
	orders := map[bool]int{}
	for seed := range 1000 {
		h := anyGiven(seed)
		was := inIt(h)
		a := asked(h)
		orders[a.is]++
		fill(a.order, mark)
		if !reflect.DeepEqual(inIt(h), was) {
			t.Fatalf("R5: seed %d: what was handed in is changed", seed)
		}
	}
	if orders[true] < 100 || orders[false] < 100 {
		t.Errorf("too few of a kind: %v", orders)
	}
	many := withRoom(slices.Repeat(of(t, "0+s 0-all:1=a"), 65))
	was := inIt(many)
	if a := asked(many); a.e != api.ErrHistory || !reflect.DeepEqual(inIt(many), was) {
		t.Errorf("R5: of too many calls: error %d, or what was handed in is changed", a.e)
	}
}

// Neither what becomes of a history nor what becomes of another answer is seen in an answer.
func TestAnswersAreNew(t *testing.T) {
	for seed := range 1000 {
		h := anyGiven(seed)
		first, second := asked(h), asked(h)
		want := answer{slices.Clone(first.order), first.is, first.e, first.f}
		if !second.same(want) {
			t.Fatalf("R6: seed %d: %+v, then %+v", seed, want, second)
		}
		other := inIt(h)[:len(h)]
		wipe(h)
		fill(first.order, mark)
		if !second.same(want) {
			t.Fatalf("R5: seed %d: an answer shares memory: %+v, want %+v", seed, second, want)
		}
		fill(second.order, mark+1)
		if slices.Contains(first.order[:cap(first.order)], mark+1) {
			t.Fatalf("R5: seed %d: two answers share memory", seed)
		}
		for i := range other {
			other[i].Reply.Keys = other[i].Reply.Keys[:len(other[i].Reply.Keys)-2]
			other[i].Reply.Values = other[i].Reply.Values[:len(other[i].Reply.Values)-2]
		}
		if third := asked(other); !third.same(want) {
			t.Fatalf("R6: seed %d: asked again: %+v, want %+v", seed, third, want)
		}
	}
}

// What was asked of one history is not seen in what is answered of another, behind it or at the same time.
func TestHistoriesAreTheirOwn(t *testing.T) {
	const many = 60
	var hs [][]api.Moment
	var want []answer
	for seed := range many {
		hs = append(hs, anyGiven(seed))
		want = append(want, asked(hs[seed]))
	}
	var all sync.WaitGroup
	for g := range 8 {
		all.Go(func() {
			for i := range 5 * many {
				if k := (i*7 + g) % many; !asked(hs[k]).same(want[k]) {
					t.Errorf("R6: the history %d has another answer now", k)
				}
			}
		})
	}
	all.Wait()
}

// Moments may share their lists, and a list may be nil or empty.
func TestSharedLists(t *testing.T) {
	list, values := []int{1, 2}, []string{"a", "a"}
	r := api.Reply{Ok: true, Keys: list, Values: values}
	empty := api.Reply{Keys: list[:0], Values: values[:0]}
	h := of(t, "0+p1=a 1+s 2+s 3+p2=a 0-ok 1-all: 2-all: 3-ok")
	h[5].Reply, h[6].Reply = r, r
	ordered(t, "two Snapshots with the same lists", h, 0, 3, 1, 2)
	for i := range h {
		if len(h[i].Reply.Keys) == 0 {
			h[i].Reply.Keys, h[i].Reply.Values = empty.Keys, empty.Values
		}
	}
	ordered(t, "empty lists in the place of nil ones", h, 0, 3, 1, 2)
}
