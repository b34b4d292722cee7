package table_test

import (
	"math/rand"
	"reflect"
	"runtime"
	"slices"
	"strings"
	"testing"

	"fugue/api"
	"fugue/table"
)

const mark = -77 // stands in spare room

// roomy: the same list with spare room behind it, in which more stands.
func roomy[T any](l []T, more T) []T {
	return append(append(make([]T, 0, len(l)+2), l...), more, more)[:len(l)]
}

func fill[T any](l []T, x T) {
	l = l[:cap(l)]
	for i := range l {
		l[i] = x
	}
}

// full: a list with its spare room, in new memory.
func full[T any](l []T) []T { return slices.Clone(l[:cap(l)]) }

var strange = api.Op{Kind: mark, Key: mark, Value: "strange"}

// given: what Play is handed, each list with spare room.
type given struct {
	clients [][]api.Op
	script  []int
}

func anyGiven(r *rand.Rand) given {
	g := given{roomy(anyClients(r, 1+r.Intn(6), 6), []api.Op{strange, pub(1, "strange")}), roomy(anyScript(r, 80), mark)}
	for i, calls := range g.clients {
		g.clients[i] = roomy(calls, pub(1, "spare"))
	}
	return g
}

// copied: all that stands in it, in spare room too, in new memory.
func (g given) copied() given {
	c := given{full(g.clients), full(g.script)}
	for i, calls := range c.clients {
		c.clients[i] = full(calls)
	}
	return c
}

func (g given) wipe() {
	for _, calls := range g.clients[:cap(g.clients)] {
		fill(calls, strange)
	}
	fill(g.clients, nil)
	fill(g.script, mark)
}

func copiedHistory(h []api.Moment) []api.Moment {
	c := slices.Clone(h)
	for i, m := range c {
		c[i].Reply.Keys, c[i].Reply.Values = slices.Clone(m.Reply.Keys), slices.Clone(m.Reply.Values)
	}
	return c
}

func wipeHistory(h []api.Moment) {
	for _, m := range h {
		fill(m.Reply.Keys, mark)
		fill(m.Reply.Values, "wiped")
	}
	fill(h, api.Moment{Client: mark})
}

func TestArgumentsStay(t *testing.T) {
	for seed := range 300 {
		g := anyGiven(rand.New(rand.NewSource(int64(seed))))
		before := g.copied()
		table.Play(g.clients, g.script...)
		if !reflect.DeepEqual(g.copied(), before) {
			t.Fatalf("P11.4: seed %d: an argument was changed", seed)
		}
	}
	many := roomy(make([][]api.Op, 65), []api.Op{strange})
	table.Play(many, 1, 2)
	if many[:66][65][0] != strange {
		t.Error("P11.4: of too many clients an argument was changed")
	}
}

// Neither what becomes of the arguments nor what becomes of another answer is seen in an answer.
func TestHistoriesAreTheirOwn(t *testing.T) {
	for seed := range 300 {
		for keep := range 2 {
			g := anyGiven(rand.New(rand.NewSource(int64(seed))))
			two := [][]api.Moment{table.Play(g.clients, g.script...), table.Play(g.clients, g.script...)}
			want := copiedHistory(two[keep])
			g.wipe()
			wipeHistory(two[1-keep])
			if !alike(two[keep], want) {
				t.Fatalf("P11.4: seed %d: the answer %d shares memory", seed, keep)
			}
		}
	}
}

// ownRooms: no two lists share memory, spare room too: each is filled with its number, which then stands there still.
func ownRooms[T comparable](t *testing.T, lists [][]T, number func(int) T) {
	t.Helper()
	for i, l := range lists {
		fill(l, number(i))
	}
	for i, l := range lists {
		for _, x := range l[:cap(l)] {
			if x != number(i) {
				t.Fatalf("P11.4: the list %d of an answer shares memory with another", i)
			}
		}
	}
}

func TestListsOfOneHistory(t *testing.T) {
	for seed := range 200 {
		r := rand.New(rand.NewSource(int64(seed)))
		h := table.Play(anyClients(r, 5, 8), anyScript(r, 100)...)
		var keys [][]int
		var values [][]string
		for _, m := range h {
			keys, values = append(keys, m.Reply.Keys), append(values, m.Reply.Values)
		}
		ownRooms(t, keys, func(i int) int { return i })
		ownRooms(t, values, func(i int) string { return strings.Repeat("x", i) })
	}
}

// What becomes of a Snapshot's answer is seen neither in the table nor in another answer.
func TestSnapshotsAreTheirOwn(t *testing.T) {
	x := table.New()
	keys, values := []int{-9, -1, 0, 3, 8, 70}, []string{"a", "b", "", "d", "e", "f"}
	for i, k := range keys {
		publishes(t, x, k, values[i], true)
	}
	a, av := x.Snapshot()
	b, bv := x.Snapshot()
	ownRooms(t, [][]int{a, b}, func(i int) int { return i })
	ownRooms(t, [][]string{av, bv}, func(i int) string { return strings.Repeat("x", i) })
	snaps(t, x, keys, values)
	for i, k := range keys {
		looks(t, x, k, values[i])
	}
	kept, keptValues := x.Snapshot()
	publishes(t, x, 1, "later", true)
	if !slices.Equal(kept, keys) || !slices.Equal(keptValues, values) {
		t.Errorf("P11.4: a Snapshot changed later: %v %q", kept, keptValues)
	}
}

// The same arguments have the same answer each time, at one time too.
func TestPlaysAtOneTime(t *testing.T) {
	g := anyGiven(rand.New(rand.NewSource(5)))
	want := table.Play(g.clients, g.script...)
	together(t, 8, func(int) {
		for range 100 {
			if !alike(table.Play(g.clients, g.script...), want) {
				t.Error("R6: played at one time: another history")
			}
		}
	})
}

// inUse: how many bytes the program holds.
func inUse() int {
	var s runtime.MemStats
	runtime.GC()
	runtime.ReadMemStats(&s)
	return int(s.HeapAlloc)
}

// Of keys that were only asked for, and of values that were not the first, nothing is kept.
func TestNothingIsKeptBesides(t *testing.T) {
	x := table.New()
	publishes(t, x, 0, "a", true)
	was := inUse()
	for k := 1; k < 300000; k++ {
		x.Lookup(k)
		x.Publish(0, strings.Repeat("x", 20))
		if k%1000 == 0 {
			x.Snapshot()
		}
	}
	if grown := inUse() - was; grown > 1<<20 {
		t.Errorf("P11.1: a table with one key has grown by %d bytes", grown)
	}
	snaps(t, x, []int{0}, []string{"a"})
}
