package table_test

import (
	"math/rand"
	"slices"
	"testing"

	"fugue/api"
	"fugue/table"
)

// right: the plain play's history; each call ends; there is an order of the calls, that of their effects.
func right(t *testing.T, clients [][]api.Op, script []int) {
	t.Helper()
	h := table.Play(clients, script...)
	want, effects := plainPlayOrder(clients, script)
	if !alike(h, want) {
		t.Fatalf("P11.3: %+v, script %v:\n%s, want\n%s", clients, script, tell(h), tell(want))
	}
	l, whole := callsOf(h)
	if made := len(slices.Concat(knownCalls(clients)...)); !whole || len(l) != made || len(effects) != made {
		t.Fatalf("P11.3: %+v, script %v: of %d calls %d are told: %s", clients, script, made, len(l), tell(h))
	}
	if !hasOrder(l) {
		t.Fatalf("W4: %+v, script %v: no order of the calls has these answers: %s", clients, script, tell(h))
	}
}

func knownCalls(clients [][]api.Op) [][]api.Op {
	var l [][]api.Op
	for _, calls := range clients {
		l = append(l, slices.DeleteFunc(slices.Clone(calls), func(op api.Op) bool { return op.Kind < 1 || op.Kind > 3 }))
	}
	return l
}

// allScripts: those of so many picks, each below the number of clients.
func allScripts(t *testing.T, length int, clients ...[]api.Op) {
	t.Helper()
	script := make([]int, length)
	for {
		right(t, clients, script)
		i := 0
		for ; i < length && script[i] == len(clients)-1; i++ {
			script[i] = 0
		}
		if i == length {
			return
		}
		script[i]++
	}
}

func TestAllScriptsOfFewCalls(t *testing.T) {
	allScripts(t, 9, []api.Op{pub(1, "a")}, []api.Op{pub(1, "b"), look(1)})
	allScripts(t, 12, []api.Op{pub(1, "a"), look(9)}, []api.Op{pub(9, "b"), look(1)})
	allScripts(t, 9, []api.Op{pub(1, "a")}, []api.Op{pub(1, "b")}, []api.Op{look(1)})
	allScripts(t, 13, []api.Op{snap}, []api.Op{pub(3, "a")})
	allScripts(t, 15, []api.Op{snap}, []api.Op{pub(7, "a"), pub(0, "b")})
	allScripts(t, 13, []api.Op{snap}, []api.Op{snap})
	allScripts(t, 8, []api.Op{snap}, []api.Op{snap, look(1)}, []api.Op{pub(1, "a"), pub(6, "b")})
}

func TestAnyPlay(t *testing.T) {
	for seed := range 4000 {
		r := rand.New(rand.NewSource(int64(seed)))
		clients := anyClients(r, r.Intn(7), 6)
		right(t, clients, anyScript(r, 150))
	}
	for seed := range 60 {
		r := rand.New(rand.NewSource(int64(seed)))
		right(t, anyClients(r, 40+r.Intn(25), 6), anyScript(r, 1500))
	}
}

// With Snapshots that all want the locks, again and again, each call ends.
func TestManySnapshots(t *testing.T) {
	for seed := range 100 {
		r := rand.New(rand.NewSource(int64(seed)))
		var clients [][]api.Op
		for i := range 1 + r.Intn(12) {
			clients = append(clients, []api.Op{snap, pub(i, "a"), snap, look(i + 1), snap})
		}
		right(t, clients, anyScript(r, 800))
	}
}

// The script's numbers count by their places alone: any others of the same remainder by all numbers of clients pick the same.
func TestNumbersOfTheSamePlaces(t *testing.T) {
	for seed := range 300 {
		r := rand.New(rand.NewSource(int64(seed)))
		clients, script := anyClients(r, 1+r.Intn(6), 5), anyScript(r, 60)
		others := slices.Clone(script)
		for i, k := range script {
			if others[i] = k - 60; k < 0 { // 60: of all numbers up to 6
				others[i] = k + 120
			}
		}
		if a, b := table.Play(clients, script...), table.Play(clients, others...); !alike(a, b) {
			t.Fatalf("P11.3: seed %d: the scripts %v and %v: %s and %s", seed, script, others, tell(a), tell(b))
		}
	}
}

func TestLongPlay(t *testing.T) {
	var clients [][]api.Op
	for i := range 64 {
		var calls []api.Op
		for k := range 3000 {
			calls = append(calls, []api.Op{pub(k, "a"), look(k + i), {Kind: 9}}[(k+i)%3])
		}
		clients = append(clients, calls)
	}
	made := len(slices.Concat(knownCalls(clients)...))
	for _, script := range [][]int{nil, times(100000, -1), times(100000, 17)} {
		if h := table.Play(clients, script...); len(h) != 2*made {
			t.Errorf("P11.3: %d moments of %d calls", len(h), made)
		}
	}
	if h := table.Play([][]api.Op{slices.Repeat([]api.Op{{Kind: 4}}, 1<<20), {look(1)}}); len(h) != 2 {
		t.Errorf("P11.3: behind many calls of no known kind: %s", tell(h))
	}
}
