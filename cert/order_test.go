package cert

import (
	"math/rand"
	"slices"
	"testing"

	"fugue/api"
	"fugue/calls"
)

// anyCalls: a program of functions that call one another as it comes.
func anyCalls(r *rand.Rand) api.Program {
	var p api.Program
	many := 1 + r.Intn(12)
	for range many {
		var f api.Func
		for range r.Intn(4) {
			f.Code = append(f.Code, api.Instr{Op: api.Call, N: r.Intn(many)})
		}
		f.Code = append(f.Code, api.Instr{Op: api.Return})
		p.Funcs = append(p.Funcs, f)
	}
	return p
}

// Each function stands in the order once, and whoever calls a component from outside stands behind all of it.
func TestCalleesFirst(t *testing.T) {
	rings := 0
	for seed := range 3000 {
		p := anyCalls(rand.New(rand.NewSource(int64(seed))))
		g, e := calls.New(p)
		if e != api.OK {
			t.Fatalf("no program: error %d", e)
		}
		l := calleesFirst(p)
		rank := map[int]int{}
		for i, f := range l {
			rank[f] = i
		}
		if len(l) != len(p.Funcs) || len(rank) != len(p.Funcs) {
			t.Fatalf("seed %d: the order %v of %d functions", seed, l, len(p.Funcs))
		}
		for f, body := range p.Funcs {
			for _, x := range body.Code {
				if x.Op != api.Call || g.Of(x.N) == g.Of(f) {
					continue
				}
				ring := g.Members(g.Of(x.N))
				if slices.ContainsFunc(ring, func(m int) bool { return rank[m] > rank[f] }) {
					t.Fatalf("seed %d: %v: %d calls one of %v", seed, l, f, ring)
				}
				if len(ring) > 1 {
					rings++
				}
			}
		}
	}
	if rings < 500 {
		t.Errorf("only %d calls of rings from outside", rings)
	}
}

// The lowest of all that are there, whatever was taken before.
func TestOpen(t *testing.T) {
	for seed := range 300 {
		r := rand.New(rand.NewSource(int64(seed)))
		numbers := 1 + r.Intn(300)
		o, plain := newOpen(numbers), make([]bool, numbers)
		for range 1000 {
			if r.Intn(2) == 0 {
				n := r.Intn(numbers)
				o.put(n)
				plain[n] = true
				continue
			}
			want := slices.Index(plain, true)
			got, is := o.take()
			if is != (want >= 0) || is && got != want {
				t.Fatalf("seed %d: %d, %v, want %d", seed, got, is, want)
			}
			if is {
				plain[got] = false
			}
		}
	}
}
