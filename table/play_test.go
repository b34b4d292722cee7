package table_test

import (
	"fmt"
	"slices"
	"strings"
	"testing"

	"fugue/api"
	"fugue/table"
)

func TestPlaysOfTheChapter(t *testing.T) {
	two := [][]api.Op{{pub(1, "a")}, {pub(1, "b"), look(1)}}
	plays(t, "example 2", two, []int{0, 1, 1, 0, 1, 0}, "0+publish 1 a, 1+publish 1 b, 1-new, 0-old, 1+lookup 1, 1-is b")
	plays(t, "example 2, a longer script", two, []int{0, 1, 1, 0, 1, 0, 5, -5, 0, 7, 7, 7, 7}, "0+publish 1 a, 1+publish 1 b, 1-new, 0-old, 1+lookup 1, 1-is b")
	plays(t, "who takes effect first", [][]api.Op{{pub(1, "a")}, {pub(1, "b")}}, []int{0, 1, 1}, "0+publish 1 a, 1+publish 1 b, 1-new, 0-old")
	plays(t, "example 3", [][]api.Op{{snap}, {pub(0, "a")}}, []int{0, 0, 1}, "0+snapshot, 1+publish 0 a, 0-all [] [], 1-new")
	plays(t, "example 3, all picks for the one that waits", [][]api.Op{{snap}, {pub(0, "a")}}, times(2, 0, times(40, 1)...), "0+snapshot, 1+publish 0 a, 1-new, 0-all [] []")
}

func TestNoSteps(t *testing.T) {
	playsNone(t, "no clients", nil)
	playsNone(t, "no clients, a script", [][]api.Op{}, 0, 1, -1)
	playsNone(t, "clients without calls", [][]api.Op{nil, {}, nil}, 2, 1)
	playsNone(t, "64 clients without calls", make([][]api.Op, 64), 1)
	for _, kind := range unknown {
		op := api.Op{Kind: kind, Key: 1, Value: "a"}
		playsNone(t, "a call of no known kind", [][]api.Op{{op}}, 0)
		playsNone(t, "calls of no known kind", [][]api.Op{{op, op}, {}, {op}}, 1, 2)
	}
}

// Calls of no known kind are neither steps nor moments, wherever they stand.
func TestCallsThatArePassedOver(t *testing.T) {
	right := [][]api.Op{{pub(1, "a"), look(2)}, {look(1), snap}}
	for _, kind := range unknown {
		no := api.Op{Kind: kind, Key: 1, Value: "z"}
		mixed := [][]api.Op{{no, pub(1, "a"), no, no, look(2), no}, {look(1), no, snap, no, no}, {no}}
		for _, script := range [][]int{nil, {1}, {0, 1, 1, 0, 0, 1}, times(30, 1), times(30, -1)} {
			if got, want := table.Play(mixed, script...), table.Play(right, script...); !alike(got, want) || len(want) != 8 {
				t.Errorf("P11.3: with calls of the kind %d: %s, want %s", kind, tell(got), tell(want))
			}
		}
	}
}

// A client whose calls all are passed over takes no turn: neither by the script nor in the round.
func TestClientsWithoutCallsTakeNoTurn(t *testing.T) {
	no := api.Op{Kind: 7}
	clients := [][]api.Op{{no}, {look(1)}, nil, {look(3)}, {no, no}}
	plays(t, "picks count those that can go on", clients, []int{1, 1, 0}, "3+lookup 3, 1+lookup 1, 3-none, 1-none")
	plays(t, "in the round", clients, nil, "1+lookup 1, 3+lookup 3, 1-none, 3-none")
}

func TestManyClients(t *testing.T) {
	full := func(many int) [][]api.Op {
		var l [][]api.Op
		for i := range many {
			l = append(l, []api.Op{pub(i, "a"), look(0)})
		}
		return l
	}
	for _, many := range []int{1, 2, 63, 64} {
		h := table.Play(full(many), 3, -1, 70)
		if len(h) != 4*many || !alike(h, plainPlay(full(many), []int{3, -1, 70})) {
			t.Errorf("P11.3: %d clients: %d moments, want %d", many, len(h), 4*many)
		}
	}
	plays(t, "the last one of 64", append(make([][]api.Op, 63), []api.Op{look(1)}), nil, "63+lookup 1, 63-none")
	for _, many := range []int{65, 66, 128, 1000} {
		playsNone(t, "too many clients", full(many), 0, 1)
		playsNone(t, "too many clients without calls", make([][]api.Op, many))
	}
	playsNone(t, "one call among 65 clients", append(make([][]api.Op, 64), []api.Op{look(1)}))
}

// order: the clients of a history's moments, one behind the other.
func order(h []api.Moment) string {
	var l []string
	for _, m := range h {
		l = append(l, fmt.Sprint(m.Client))
	}
	return strings.Join(l, " ")
}

// Behind the script's end it goes round, from the one that was picked last on; a Lookup is three steps, the middle one no moment.
func TestTheRound(t *testing.T) {
	four := [][]api.Op{{look(0)}, {look(1)}, {look(2)}, {look(3)}}
	for _, c := range []struct {
		script []int
		want   string
	}{
		{nil, "0 1 2 3 0 1 2 3"},
		{[]int{0}, "0 1 2 3 0 1 2 3"},
		{[]int{1}, "1 2 3 0 1 2 3 0"},
		{[]int{2}, "2 3 0 1 2 3 0 1"},
		{[]int{3}, "3 0 1 2 3 0 1 2"},
		{[]int{2, 2}, "2 3 0 1 2 3 0 1"},
		{[]int{2, 2, 2}, "2 2 3 0 1 3 0 1"},          // 2 has ended: the next one behind it is 3
		{[]int{3, 3, 3}, "3 3 0 1 2 0 1 2"},          // behind the last one comes the first
		{[]int{1, 1, 1, 0}, "1 1 0 2 3 0 2 3"},       // 1 is not there any more when the round comes to it
		{[]int{1, 1, 1, 1, 1, 1}, "1 1 2 2 3 0 3 0"}, // place 1 of 0 2 3 is 2
	} {
		h := table.Play(four, c.script...)
		if order(h) != c.want || !alike(h, plainPlay(four, c.script)) {
			t.Errorf("P11.3: the script %v: %s, want %s", c.script, order(h), c.want)
		}
	}
}

// A pick is a place among those that can go on, whatever number it is.
func TestPicksOfAllNumbers(t *testing.T) {
	for many := 1; many <= 9; many++ {
		var clients [][]api.Op
		for i := range many {
			clients = append(clients, []api.Op{look(i)})
		}
		for _, k := range append([]int{-2, -3, -5, -6, 2, 3, 5, 6, 10, 11}, edges...) {
			h := table.Play(clients, k)
			if h[0].Client != plainMod(k, many) {
				t.Errorf("P11.3: the pick %d of %d: %d, want %d", k, many, h[0].Client, plainMod(k, many))
			}
			plays(t, "the same pick again and again", clients, times(4*many, k), tell(plainPlay(clients, times(4*many, k))))
		}
	}
}

// A script that is too short is gone on with by the round; of one that is too long the rest says nothing.
func TestScriptsOfAllLengths(t *testing.T) {
	clients := [][]api.Op{{pub(1, "a"), look(9), snap}, {look(1), pub(9, "b")}, {snap, look(1)}}
	full := []int{0, 1, 1, 2, 0, 1, 1, 0, 2, 2, 2, 1, 0, 0, 1, 2, 1, 2, 2, 0, 1, 2, 0, 1, 2, 1, 0, 2, 1, 0, 2, 1, 2, 0, 1, 2, 2, 1, 0}
	for n := range full {
		if h := table.Play(clients, full[:n]...); !alike(h, plainPlay(clients, full[:n])) {
			t.Errorf("P11.3: the first %d of the script: %s", n, tell(h))
		}
	}
	steps := 7*3 - 2*3 + 2*11 // seven calls, of which two are Snapshots
	long := table.Play(clients, full[:steps]...)
	for _, more := range [][]int{{0}, {5, -5}, times(1000, 1)} {
		if h := table.Play(clients, slices.Concat(full[:steps], more)...); !alike(h, long) {
			t.Errorf("P11.3: with %d more numbers than steps: %s, want %s", len(more), tell(h), tell(long))
		}
	}
}

// The moments have the Op as it was given, also what its Kind does not use; that says nothing.
func TestOpsAsTheyWereGiven(t *testing.T) {
	odd := []api.Op{{Kind: api.TLookup, Key: 3, Value: "x"}, {Kind: api.TSnapshot, Key: 5, Value: "y"}, {Kind: api.TSnapshot, Key: -1}, {Kind: api.TLookup, Key: 4, Value: "z"}}
	h := table.Play([][]api.Op{append([]api.Op{pub(3, "a")}, odd...)})
	want := []api.Reply{{Ok: true}, {Ok: true, Value: "a"}, {Ok: true, Keys: []int{3}, Values: []string{"a"}}, {Ok: true, Keys: []int{3}, Values: []string{"a"}}, {}}
	if len(h) != 10 {
		t.Fatalf("P11.3: %+v", h)
	}
	for i, op := range append([]api.Op{pub(3, "a")}, odd...) {
		if !alikeMoment(h[2*i], api.Moment{Begin: true, Op: op}) || !alikeMoment(h[2*i+1], api.Moment{Op: op, Reply: want[i]}) {
			t.Errorf("P11.3: %+v: %+v, %+v, want the reply %+v", op, h[2*i], h[2*i+1], want[i])
		}
	}
}

// The replies of each kind: what it answers, and nothing else.
func TestReplies(t *testing.T) {
	ops := []api.Op{snap, look(2), pub(2, ""), look(2), pub(2, "b"), snap, pub(-5, "c"), pub(1<<62, "d"), look(-5), snap}
	want := []api.Reply{
		{Ok: true}, {}, {Ok: true}, {Ok: true}, {}, {Ok: true, Keys: []int{2}, Values: []string{""}}, {Ok: true}, {Ok: true},
		{Ok: true, Value: "c"}, {Ok: true, Keys: []int{-5, 2, 1 << 62}, Values: []string{"c", "", "d"}},
	}
	h := table.Play([][]api.Op{ops})
	if len(h) != 2*len(ops) {
		t.Fatalf("P11.3: %+v", h)
	}
	for i, op := range ops {
		if !alikeMoment(h[2*i], api.Moment{Begin: true, Op: op}) || !alikeMoment(h[2*i+1], api.Moment{Op: op, Reply: want[i]}) {
			t.Errorf("P11.3: %+v: %+v, %+v, want the reply %+v", op, h[2*i], h[2*i+1], want[i])
		}
	}
}

// Each play has a fresh table.
func TestAFreshTableEachTime(t *testing.T) {
	for range 3 {
		plays(t, "again", [][]api.Op{{look(1), pub(1, "a"), snap}}, nil, "0+lookup 1, 0-none, 0+publish 1 a, 0-new, 0+snapshot, 0-all [1] [a]")
	}
}
