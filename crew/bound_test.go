package crew_test

import (
	"math/big"
	"math/rand"
	"slices"
	"testing"

	"fugue/api"
	"fugue/crew"
)

// plainBound: by the chapter's words, in numbers without an end.
func plainBound(p api.Program, g plainGraph, workers int) *big.Int {
	n := func(k int) *big.Int { return big.NewInt(int64(k)) }
	total := n(0)
	for c, members := range g.members {
		e := n(0)
		for _, f := range members {
			x := p.Funcs[f]
			e.Add(e, n(x.Params+x.Params*x.Results))
		}
		passes := e.Mul(e, n(api.MaxDeref+1))
		passes.Add(passes, n(1)).Mul(passes, n(len(members)))
		total.Add(total, passes).Add(total, n(1+len(g.callees[c])+1+len(g.callers[c])+1))
	}
	total.Add(total, n(1)).Mul(total, n(workers+1))
	return total.Add(total, n(workers))
}

func TestBound(t *testing.T) {
	for _, x := range []struct {
		what    string
		p       api.Program
		workers int
		want    int
	}{
		{"example 1", leaves(1), 1, 11},
		{"one, two workers", leaves(1), 2, 17},
		{"one, 64 workers", leaves(1), 64, 5*65 + 64},
		{"one calls another", calling([]int{1}, nil), 2, 35},
		{"one calls another twice, and itself", calling([]int{1, 0, 1}, nil), 2, 35},
		{"two parameters, one result", of(t, fn(2, 1, 2, "return v0")), 1, 43},
		{"two parameters, one result, 64 workers", of(t, fn(2, 1, 2, "return v0")), 64, 21*65 + 64},
		{"results without parameters", of(t, fn(0, 2, 2, "return v0, v1")), 1, 11},
		{"parameters without results", of(t, fn(3, 0, 3, "return")), 1, (1+13+2+1)*2 + 1},
		{"a ring of two", of(t, fn(2, 1, 2, "v0 = f1(v0, v1);return v0"), fn(2, 1, 2, "v0 = f0(v0, v1);return v0")), 1, 141},
		{"as many numbers as may be", of(t, fn(8, 4, 8, "return v0, v1, v2, v3")), 1, (1+161+2+1)*2 + 1},
	} {
		if n := crew.Bound(x.p, x.workers); n != x.want {
			t.Errorf("P14.3: %s: %d, want %d", x.what, n, x.want)
		}
	}
	for seed := range 2000 {
		r := rand.New(rand.NewSource(int64(seed)))
		p := anyProgram(r, 20, 9)
		workers := 1 + r.Intn(api.MaxWorkers)
		if n, want := crew.Bound(p, workers), plainBound(p, plainOf(p), workers); big.NewInt(int64(n)).Cmp(want) != 0 {
			t.Fatalf("P14.3: seed %d, %d workers: %d, want %d", seed, workers, n, want)
		}
	}
}

// The greatest ring there may be, with as many numbers as may be.
func TestGreatBound(t *testing.T) {
	const many = api.MaxFuncs
	p := api.Program{Funcs: make([]api.Func, many)}
	args := []int{0, 1, 2, 3, 4, 5, 6, 7}
	g := plainGraph{members: make([][]int, 1), callees: make([][]int, 1), callers: make([][]int, 1)}
	for f := range p.Funcs {
		p.Funcs[f] = api.Func{Params: 8, Results: 4, Vars: 8, Code: []api.Instr{call((f+1)%many, args, args[:4]), ret(args[:4]...)}}
		g.members[0] = append(g.members[0], f)
	}
	for _, workers := range []int{1, 64} {
		if n, want := crew.Bound(p, workers), plainBound(p, g, workers); big.NewInt(int64(n)).Cmp(want) != 0 {
			t.Errorf("P14.3: the greatest ring, %d workers: %d, want %d", workers, n, want)
		}
	}
}

// window: the least B for which a run was fair: in every B picks each worker that could go on all that while was picked.
func window(s *plainPlay, workers int) int {
	most := 0
	for w := range workers {
		waits := 0
		for i, able := range s.able {
			if !slices.Contains(able, w) || s.events[i].Worker == w {
				waits = 0
				continue
			}
			waits++
			most = max(most, waits)
		}
	}
	return most + 1
}

// lazy: picks who has no task and finds none, as long as nobody has waited for as many picks as it may.
func lazy(s *plainPlay, most int) func(int, []int) int {
	waits := make([]int, len(s.deques))
	return func(_ int, able []int) int {
		pick := -1
		for _, w := range able {
			idle := !s.has[w]
			if pick < 0 || idle && s.has[pick] || idle != s.has[pick] && waits[w] > waits[pick] {
				pick = w
			}
		}
		for _, w := range able {
			if waits[w] >= most-1 && waits[w] >= waits[pick] {
				pick = w
			}
		}
		for w := range waits {
			if w == pick || !slices.Contains(able, w) {
				waits[w] = 0
			} else {
				waits[w]++
			}
		}
		return pick
	}
}

// Scripts that are fair in windows of B picks end within B times Bound; in every state somebody can go on, until all have ended.
func TestItEnds(t *testing.T) {
	ends := func(what string, p api.Program, workers int, s *plainPlay) {
		t.Helper()
		_, h, e := crew.Scripted(p, workers, s.script...)
		if e != api.OK || !slices.Equal(h, s.events) || slices.Contains(s.ended, false) {
			t.Fatalf("W5: %s, %d workers: error %d, %d events, want %d", what, workers, e, len(h), len(s.events))
		}
		b := window(s, workers)
		if len(h) > b*crew.Bound(p, workers) {
			t.Fatalf("P14.4: %s, %d workers: %d events, windows of %d, the bound is %d", what, workers, len(h), b, crew.Bound(p, workers))
		}
	}
	for seed := range 250 {
		r := rand.New(rand.NewSource(int64(seed)))
		p := anyProgram(r, 9, 7)
		workers := crews[r.Intn(len(crews))]
		ends("any script", p, workers, plain(p, workers, anyScript(r, 300)))
		s := plain(p, workers, nil)
		if ends("going round", p, workers, s); window(s, workers) > workers {
			t.Fatalf("P14.1: going round somebody waits for %d picks of %d workers", window(s, workers), workers)
		}
		for _, most := range []int{1, 2, workers, 3 * workers} {
			s := newPlay(p, workers)
			s.run(unbounded, lazy(s, most))
			ends("who has nothing to do first", p, workers, s)
		}
	}
}
