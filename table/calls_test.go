package table_test

import (
	"maps"
	"math/rand"
	"slices"
	"strconv"
	"strings"
	"testing"

	"fugue/api"
	"fugue/table"
)

func TestCallsOfTheChapter(t *testing.T) {
	x := table.New()
	publishes(t, x, 5, "a", true)
	publishes(t, x, 5, "b", false)
	looks(t, x, 5, "a")
	looksNone(t, x, 13)
	publishes(t, x, -3, "", true)
	snaps(t, x, []int{-3, 5}, []string{"", "a"})
}

func TestAFreshTable(t *testing.T) {
	x := table.New()
	if x == nil {
		t.Fatal("P11.1: New: nil")
	}
	for _, k := range edges {
		looksNone(t, x, k)
	}
	snaps(t, x, nil, nil)
}

// The first value stays, whatever is published for the key behind it.
func TestPublishedOnce(t *testing.T) {
	for _, first := range []string{"", "a", "b", "\x00", "ä\xff", strings.Repeat("long", 1000)} {
		x := table.New()
		publishes(t, x, 3, first, true)
		for _, v := range []string{first, "", "a", "c", first + " ", first} {
			publishes(t, x, 3, v, false)
			looks(t, x, 3, first)
			snaps(t, x, []int{3}, []string{first})
		}
	}
}

// A key that was asked for has no value by that.
func TestLookupPublishesNothing(t *testing.T) {
	x := table.New()
	looksNone(t, x, 4)
	looksNone(t, x, 4)
	snaps(t, x, nil, nil)
	publishes(t, x, 4, "a", true)
	looks(t, x, 4, "a")
	looksNone(t, x, 12)
	snaps(t, x, []int{4}, []string{"a"})
}

func TestKeysAtTheEnds(t *testing.T) {
	for _, down := range []bool{false, true} {
		x := table.New()
		order := slices.Clone(edges)
		if down {
			slices.Reverse(order)
		}
		var values []string
		for _, k := range edges {
			values = append(values, strconv.Itoa(k))
		}
		for i, k := range order {
			looksNone(t, x, k)
			publishes(t, x, k, strconv.Itoa(k), true)
			publishes(t, x, k, "other", false)
			for j, l := range order {
				if j <= i {
					looks(t, x, l, strconv.Itoa(l))
				} else {
					looksNone(t, x, l)
				}
			}
		}
		snaps(t, x, edges, values)
	}
}

// Snapshot tells keys of all stripes together, rising.
func TestSnapshotOfEveryStripe(t *testing.T) {
	x := table.New()
	var keys []int
	var values []string
	for k := -40; k < 40; k++ {
		keys, values = append(keys, k), append(values, strconv.Itoa(k*k))
	}
	for _, i := range rand.New(rand.NewSource(1)).Perm(len(keys)) {
		publishes(t, x, keys[i], values[i], true)
	}
	snaps(t, x, keys, values)
	snaps(t, x, keys, values)
}

// One stripe's keys alone, and keys of all stripes but one.
func TestSnapshotOfSomeStripes(t *testing.T) {
	for s := range api.Stripes {
		in, out := table.New(), table.New()
		var inKeys, outKeys []int
		var inValues, outValues []string
		for k := -30; k <= 30; k++ {
			v := strings.Repeat("x", k+30)
			if plainMod(k, api.Stripes) == s {
				publishes(t, in, k, v, true)
				inKeys, inValues = append(inKeys, k), append(inValues, v)
			} else {
				publishes(t, out, k, v, true)
				outKeys, outValues = append(outKeys, k), append(outValues, v)
			}
		}
		snaps(t, in, inKeys, inValues)
		snaps(t, out, outKeys, outValues)
	}
}

func TestNilTable(t *testing.T) {
	var x *table.Table
	for _, k := range edges {
		publishes(t, x, k, "a", false)
		looksNone(t, x, k)
	}
	snaps(t, x, nil, nil)
}

func TestTwoTables(t *testing.T) {
	x, y := table.New(), table.New()
	publishes(t, x, 1, "a", true)
	looksNone(t, y, 1)
	snaps(t, y, nil, nil)
	publishes(t, y, 1, "b", true)
	publishes(t, y, 2, "c", true)
	looks(t, x, 1, "a")
	looks(t, y, 1, "b")
	looksNone(t, x, 2)
	snaps(t, x, []int{1}, []string{"a"})
	snaps(t, y, []int{1, 2}, []string{"b", "c"})
}

// Whatever is called in whatever order: the plain map's answers.
func TestAgreesWithThePlainMap(t *testing.T) {
	for seed := range 300 {
		r := rand.New(rand.NewSource(int64(seed)))
		x, m := table.New(), plainMap{}
		for range 300 {
			op := anyOp(r)
			if slices.Contains(unknown, op.Kind) {
				continue
			}
			if got, want := called(x, op), m.do(op); !alikeReply(got, want) {
				t.Fatalf("P11.1: seed %d: %+v: %+v, want %+v", seed, op, got, want)
			}
		}
	}
}

// called: a call of a table, with its answer as a reply.
func called(x *table.Table, op api.Op) (r api.Reply) {
	switch op.Kind {
	case api.TPublish:
		r.Ok = x.Publish(op.Key, op.Value)
	case api.TLookup:
		r.Value, r.Ok = x.Lookup(op.Key)
	case api.TSnapshot:
		r.Ok = true
		r.Keys, r.Values = x.Snapshot()
	}
	return r
}

func TestManyKeys(t *testing.T) {
	const many = 200000
	x, want := table.New(), map[int]string{}
	for i := range many {
		k := (i*7919)%many - many/2
		publishes(t, x, k, strconv.Itoa(i), true)
		want[k] = strconv.Itoa(i)
	}
	keys, values := x.Snapshot()
	if !slices.Equal(keys, slices.Sorted(maps.Keys(want))) {
		t.Fatalf("P11.1: Snapshot of %d keys: %d, or in another order", many, len(keys))
	}
	for i, k := range keys {
		if values[i] != want[k] {
			t.Fatalf("P11.1: Snapshot: the key %d has %q, want %q", k, values[i], want[k])
		}
	}
}
