package hist_test

import (
	"math"
	"slices"
	"testing"

	"fugue/api"
	"fugue/hist"
)

func TestNoMoment(t *testing.T) {
	for _, h := range [][]api.Moment{nil, {}} {
		ordered(t, "no moment", h)
	}
}

func TestCallsOfOneClientAndOfMany(t *testing.T) {
	ordered(t, "one call", of(t, "0+p1=a 0-ok"), 0)
	ordered(t, "one client", of(t, "0+p1=a 0-ok 0+l1 0-ok=a 0+s 0-all:1=a"), 0, 2, 4)
	ordered(t, "within another's call", of(t, "0+l1 1+l2 1-no 1+s 1-all: 2+l1 0-no 2-no"), 0, 1, 3, 5)
}

// Of two clients, with a call each of which either may be in: all lists of few moments are judged as the words have it.
func TestTurns(t *testing.T) {
	var moments []api.Moment
	for c := range 2 {
		for _, op := range []api.Op{look(1), look(2)} {
			moments = append(moments, begin(c, op), end(c, op, no))
		}
	}
	right := 0
	for length := range 7 {
		h := make([]api.Moment, length)
		for n := range int(math.Pow(float64(len(moments)), float64(length))) {
			for i := range h {
				h[i] = moments[n%len(moments)]
				n /= len(moments)
			}
			want := plainCheck(h)
			if e := hist.Check(h); (e == api.OK) != want || !want && e != api.ErrHistory {
				t.Fatalf("P23.1: error %d: %+v", e, h)
			}
			if want {
				right++
			}
		}
	}
	if right < 200 {
		t.Errorf("just %d histories", right)
	}
}

func TestTurnsByHand(t *testing.T) {
	a, b := begin(0, look(1)), end(0, look(1), no)
	c, d := begin(1, look(1)), end(1, look(1), no)
	for _, x := range []struct {
		what string
		h    []api.Moment
	}{
		{"an end first", []api.Moment{b, a}},
		{"an end alone", []api.Moment{b}},
		{"a beginning last", []api.Moment{a, b, a}},
		{"a beginning alone", []api.Moment{a}},
		{"two beginnings in a row", []api.Moment{a, a, b, b}},
		{"two beginnings in a row, one end", []api.Moment{a, a, b}},
		{"two ends in a row", []api.Moment{a, b, b}},
		{"two ends in a row, two beginnings behind them", []api.Moment{a, b, b, a}},
		{"two ends in a row, another beginning", []api.Moment{a, b, b, a, b}},
		{"another client's end", []api.Moment{a, d}},
		{"another client's end first", []api.Moment{a, d, c, b}},
		{"another client's beginning is the last", []api.Moment{a, c, b}},
		{"another client's end twice", []api.Moment{a, c, d, d, b}},
		{"another client's beginning twice", []api.Moment{a, c, c, d, b}},
	} {
		isNone(t, x.what, x.h)
	}
	for _, h := range [][]api.Moment{{a, b, a, b}, {a, c, b, d}, {a, c, d, b}, {c, d, a, b}, {a, c, d, c, b, a, d, b}} {
		isHistory(t, "in turn", h)
	}
}

func TestAnyClients(t *testing.T) {
	clients := []int{math.MinInt, math.MinInt + 1, -1 << 32, -65, -64, -8, -1, 0, 1, 8, 63, 64, 65, 1<<32 - 1, 1 << 32, math.MaxInt - 1, math.MaxInt}
	var all []api.Moment
	var want []int
	for i, c := range clients {
		ordered(t, "one client", []api.Moment{begin(c, look(1)), end(c, look(1), no), begin(c, snap), end(c, snap, yes)}, 0, 2)
		all, want = append(all, begin(c, look(c))), append(want, i)
		for _, d := range clients {
			if d != c {
				isNone(t, "another one's end", []api.Moment{begin(c, look(1)), end(d, look(1), no)})
			}
		}
	}
	for _, c := range clients {
		all = append(all, end(c, look(c), no))
	}
	ordered(t, "all clients", all, want...)
}

// Each operation, of all kinds, keys and values.
func TestOps(t *testing.T) {
	numbers := []int{math.MinInt, -3, -1, 0, 1, 2, 3, 4, 5, 9, 1<<32 + 1, 1<<32 + 3, math.MaxInt}
	replies := []api.Reply{no, yes, got("a")}
	for _, kind := range numbers {
		for _, key := range numbers {
			for _, value := range []string{"", "a", "\x00"} {
				op := api.Op{Kind: kind, Key: key, Value: value}
				right := kind == api.TPublish || kind == api.TLookup && value == "" || op == snap
				found := false
				for _, r := range replies {
					h := []api.Moment{begin(4, op), end(4, op, r)}
					found = found || hist.Check(h) == api.OK
					if !right {
						isNone(t, "an Op that is not right", h)
						isNone(t, "one behind right ones", slices.Concat(of(t, "4+p1=a 4-ok 5+s"), h, of(t, "5+s 5-all:")[1:]))
					}
				}
				if found != right {
					t.Errorf("P23.1: %+v: some reply is right: %v, want %v", op, found, right)
				}
			}
		}
	}
}

// An end has all of its beginning's Op, whatever would be right by itself.
func TestOtherOpsAtTheEnd(t *testing.T) {
	ops := []api.Op{pub(1, ""), pub(1, "a"), pub(1, "b"), pub(2, ""), pub(2, "a"), pub(0, ""), look(0), look(1), look(2), look(-1), snap, {}, {Kind: 4}, {Kind: 2, Value: "a"}, {Kind: 3, Key: 1}}
	for _, a := range ops {
		for _, b := range ops {
			for _, r := range []api.Reply{no, yes, got("a")} {
				h := []api.Moment{begin(0, a), end(0, b, r)}
				if a != b {
					isNone(t, "another Op", h)
				} else if (hist.Check(h) == api.OK) != plainCheck(h) {
					t.Errorf("P23.1: %+v", h)
				}
			}
		}
	}
	isNone(t, "the Op of another client's call", []api.Moment{begin(0, look(1)), begin(1, look(2)), end(0, look(2), no), end(1, look(1), no)})
	isNone(t, "the Op of the client's last call", []api.Moment{begin(0, look(1)), end(0, look(1), no), begin(0, look(2)), end(0, look(1), no)})
}

// anyReplies: each field of a reply with what it may have and what not.
func anyReplies() []api.Reply {
	var l []api.Reply
	for _, ok := range []bool{false, true} {
		for _, value := range []string{"", "a", "\x00"} {
			for _, keys := range [][]int{nil, {}, {0}, {7}, {1, 2}, {-5, 3}, {2, 1}, {1, 1}, {math.MinInt, math.MaxInt}, {math.MaxInt, math.MinInt}, {-1, 0, 1}, {1, 2, 2}, {1, 1, 2}, {1, 3, 2}, {3, 1, 2}} {
				for _, values := range [][]string{nil, {}, {""}, {"a"}, {"b", "a"}, {"", ""}, {"a", "a", "a"}, {"", "a", "b", "c"}} {
					l = append(l, api.Reply{Ok: ok, Value: value, Keys: keys, Values: values})
				}
			}
		}
	}
	return l
}

func TestRepliesAtTheEnd(t *testing.T) {
	for _, op := range []api.Op{pub(1, "a"), pub(0, ""), look(1), look(-7), snap} {
		right := 0
		for _, r := range anyReplies() {
			h := []api.Moment{begin(0, op), end(0, op, r)}
			if plainCheck(h) {
				right++
				isHistory(t, "a reply that is right", h)
			} else {
				isNone(t, "a reply that is not right", h)
			}
		}
		// Lists are nil or empty in four ways. A Publish: Ok or not; a Lookup: not Ok, or one of three values; a Snapshot: by as many keys as values.
		if want := map[int]int{api.TPublish: 2 * 4, api.TLookup: 4 * 4, api.TSnapshot: 4 + 2*2 + 3*2 + 1}[op.Kind]; right != want {
			t.Errorf("P23.1: of %+v %d replies are right, want %d", op, right, want)
		}
	}
}

func TestRepliesByHand(t *testing.T) {
	for _, c := range []struct {
		what string
		op   api.Op
		r    api.Reply
	}{
		{"a Publish with a Value", pub(1, "a"), api.Reply{Ok: true, Value: "a"}},
		{"a Publish that is not Ok with a Value", pub(1, "a"), api.Reply{Value: "a"}},
		{"a Publish with Keys", pub(1, "a"), api.Reply{Ok: true, Keys: []int{1}}},
		{"a Publish with Values", pub(1, "a"), api.Reply{Ok: true, Values: []string{"a"}}},
		{"a Publish with Keys and Values", pub(1, "a"), api.Reply{Keys: []int{1}, Values: []string{"a"}}},
		{"a Lookup that is not Ok with a Value", look(1), api.Reply{Value: "a"}},
		{"a Lookup with Keys", look(1), api.Reply{Ok: true, Value: "a", Keys: []int{1}}},
		{"a Lookup with Values", look(1), api.Reply{Ok: true, Values: []string{"a"}}},
		{"a Lookup that is not Ok with Keys and Values", look(1), api.Reply{Keys: []int{1}, Values: []string{""}}},
		{"a Snapshot that is not Ok", snap, no},
		{"a Snapshot that is not Ok with Keys", snap, api.Reply{Keys: []int{1}, Values: []string{"a"}}},
		{"a Snapshot with a Value", snap, got("a")},
		{"Keys that fall", snap, keys(2, 1)},
		{"Keys that fall at the end", snap, keys(1, 2, 5, 4)},
		{"a key twice", snap, keys(1, 1)},
		{"the last key twice", snap, keys(0, 1, 1)},
		{"more Keys than Values", snap, api.Reply{Ok: true, Keys: []int{1, 2}, Values: []string{"a"}}},
		{"Keys without Values", snap, api.Reply{Ok: true, Keys: []int{1}}},
		{"fewer Keys than Values", snap, api.Reply{Ok: true, Keys: []int{1}, Values: []string{"a", "b"}}},
		{"Values without Keys", snap, api.Reply{Ok: true, Values: []string{""}}},
	} {
		isNone(t, c.what, []api.Moment{begin(0, c.op), end(0, c.op, c.r)})
		isNone(t, c.what+" among others", slices.Concat(of(t, "1+p1=a 1-ok 1+s"), []api.Moment{begin(0, c.op), end(0, c.op, c.r)}, of(t, "1+s 1-all:1=a")[1:]))
	}
}

func TestRepliesAtTheBeginning(t *testing.T) {
	for _, x := range []struct {
		op api.Op
		r  api.Reply
	}{{pub(1, "a"), yes}, {pub(1, "a"), no}, {look(1), got("a")}, {look(1), no}, {snap, keys(1, 2)}, {snap, yes}} {
		for _, r := range anyReplies() {
			h := []api.Moment{{Client: 3, Begin: true, Op: x.op, Reply: r}, end(3, x.op, x.r)}
			if alikeReply(r, no) {
				isHistory(t, "a reply of nothing", h)
			} else {
				isNone(t, "a beginning with a reply", h)
			}
		}
	}
}

// overlapping: so many calls of a client each, all of which have begun ahead of the first end.
func overlapping(many int, op func(int) api.Op, r func(int) api.Reply) []api.Moment {
	var h []api.Moment
	for i := range many {
		h = append(h, begin(i, op(i)))
	}
	for i := range many {
		h = append(h, end(i, op(i), r(i)))
	}
	return h
}

func TestHowManyCalls(t *testing.T) {
	none := func(int) api.Reply { return no }
	for many := range 200 {
		var row []api.Moment
		for i := range many {
			row = append(row, begin(0, look(i)), end(0, look(i), no))
		}
		for _, h := range [][]api.Moment{row, overlapping(many, look, none)} {
			if many <= 64 {
				isHistory(t, "at most 64 calls", h)
			} else {
				isNone(t, "more than 64 calls", h)
			}
			if many > 0 {
				isNone(t, "the last end is not there", h[:len(h)-1])
				isNone(t, "one more beginning", append(h[:len(h):len(h)], begin(-1, snap)))
				isNone(t, "one more end", append(h[:len(h):len(h)], end(-1, snap, yes)))
			}
		}
	}
}

// A change of any field of any moment of a history that leaves it one, or not: as the words have it.
func TestAnyMomentChanged(t *testing.T) {
	h := of(t, "0+p1=a 1+s 2+l1 0-ok 2-ok=a 0+p1=b 1-all:1=a 0-no 2+l9 2-no")
	isHistory(t, "as it is", h)
	right, wrong := 0, 0
	for at := range h {
		for _, change := range []func(m *api.Moment){
			func(m *api.Moment) { m.Client = 0 },
			func(m *api.Moment) { m.Client = 1 },
			func(m *api.Moment) { m.Client = -2 },
			func(m *api.Moment) { m.Begin = !m.Begin },
			func(m *api.Moment) { m.Op.Kind = 0 },
			func(m *api.Moment) { m.Op.Kind = api.TSnapshot },
			func(m *api.Moment) { m.Op.Key ^= 1 << 40 },
			func(m *api.Moment) { m.Op.Value += "x" },
			func(m *api.Moment) { m.Reply.Ok = !m.Reply.Ok },
			func(m *api.Moment) { m.Reply.Value += "x" },
			func(m *api.Moment) { m.Reply.Keys = append([]int{-9}, m.Reply.Keys...) },
			func(m *api.Moment) { m.Reply.Values = append([]string{"x"}, m.Reply.Values...) },
		} {
			x := slices.Clone(h)
			change(&x[at])
			if plainCheck(x) {
				right++
				isHistory(t, "changed", x)
			} else {
				wrong++
				isNone(t, "changed", x)
			}
		}
	}
	if right < 5 || wrong < 90 {
		t.Errorf("%d are right, %d wrong", right, wrong)
	}
}
