package cache_test

import (
	"math/rand"
	"slices"
	"testing"

	"fugue/api"
	"fugue/cache"
	"fugue/calls"
)

// numbered: the program whose function f has the number to[f].
func numbered(p api.Program, to []int) api.Program {
	q := api.Program{Globals: p.Globals, Funcs: make([]api.Func, len(p.Funcs))}
	for n, f := range p.Funcs {
		f.Code = slices.Clone(f.Code)
		for at, x := range f.Code {
			if x.Op == api.Call {
				f.Code[at].N = to[x.N]
			}
		}
		q.Funcs[to[n]] = f
	}
	return q
}

// ordered: other numbers for a program's functions, by chance, with each component's members in their order.
func ordered(r *rand.Rand, p api.Program) []int {
	to := r.Perm(len(p.Funcs))
	g, _ := calls.New(p)
	for c := range g.Len() {
		members := g.Members(c)
		var at []int
		for _, f := range members {
			at = append(at, to[f])
		}
		slices.Sort(at)
		for i, f := range members {
			to[f] = at[i]
		}
	}
	return to
}

// Functions that are numbered otherwise take no pass, as long as members keep their order; a ring's members in another order are another closed program.
func TestOtherNumbers(t *testing.T) {
	p := several(t)
	c := cache.New()
	solves(t, "new", c, p, 9)
	for _, to := range [][]int{{3, 0, 1, 2}, {0, 2, 3, 1}, {1, 0, 3, 2}, {2, 0, 3, 1}, {2, 1, 3, 0}, {3, 1, 2, 0}} {
		q := numbered(p, to)
		solves(t, "numbered otherwise", c, q, 0)
		solves(t, "numbered otherwise, in a new one", cache.New(), q, 9)
	}
	if l := items(t, c); len(l) != 3 {
		t.Errorf("P21.2: %d entries, want 3", len(l))
	}
	for i, to := range [][]int{{0, 2, 1, 3}, {3, 1, 0, 2}} {
		q := numbered(p, to)
		if i == 0 {
			solves(t, "the ring the other way round", c, q, 4) // its first changes at once now
		}
		solves(t, "the ring the other way round, again", c, q, 0)
	}
	if l := items(t, c); len(l) != 4 {
		t.Errorf("P21.1: %d entries, want 4", len(l))
	}
	solves(t, "the ring as it was", c, p, 0)
}

func TestAnyOtherNumbers(t *testing.T) {
	for seed := range 600 {
		r := rand.New(rand.NewSource(int64(seed)))
		p := anyProgram(r, kinds[seed%len(kinds)])
		c := cache.New()
		agreesOn(t, c, p)
		b := c.Bytes()
		for range 4 {
			q := numbered(p, ordered(r, p))
			q.Globals = api.MaxGlobals - r.Intn(api.MaxGlobals-p.Globals+1)
			solves(t, "numbered otherwise", c, q, 0)
		}
		if string(c.Bytes()) != string(b) {
			t.Fatalf("P21.2: seed %d: what was known is another one", seed)
		}
	}
}

// A function more takes its own passes alone, one less takes none; what was known stays.
func TestMoreAndLess(t *testing.T) {
	c := cache.New()
	p := several(t)
	solves(t, "new", c, p, 9)
	more := p
	more.Funcs = append(slices.Clone(p.Funcs), of(t, fn(1, 1, 2, "v1 = v0.5;return v1")).Funcs...)
	solves(t, "a function more", c, more, 2)
	solves(t, "a function more, again", c, more, 0)
	solves(t, "as it was", c, p, 0)
	solves(t, "one that nobody calls, alone", c, api.Program{Funcs: more.Funcs[4:]}, 0)
	more.Funcs = append(slices.Clone(p.Funcs), p.Funcs[0], p.Funcs[3])
	solves(t, "two functions that are there already", c, more, 0)
	more.Funcs = slices.Repeat(p.Funcs[3:], 50)
	more.Globals = 1
	solves(t, "one of them, fifty times", c, more, 0)
	solves(t, "fifty times, in a new one", cache.New(), more, 2)
}

// Two that are alike take the passes of one, be they rings or have stubs.
func TestTwoAlike(t *testing.T) {
	p := several(t)
	q := api.Program{Globals: 2, Funcs: slices.Clone(p.Funcs)}
	for _, f := range p.Funcs {
		f.Code = slices.Clone(f.Code)
		for at, x := range f.Code {
			if x.Op == api.Call {
				f.Code[at].N += len(p.Funcs)
			}
		}
		q.Funcs = append(q.Funcs, f)
	}
	c := cache.New()
	solves(t, "twice the same", c, q, 9)
	solves(t, "once", c, p, 0)
	if l := items(t, c); len(l) != 3 {
		t.Errorf("P21.1: %d entries, want 3", len(l))
	}
}

// A callee that is replaced by one with the same summary: who calls it takes no pass. With another summary: it does, and then both are known.
func TestCallees(t *testing.T) {
	caller := fn(1, 1, 2, handsOn)
	c := cache.New()
	solves(t, "new", c, of(t, caller, fn(1, 1, 1, back)), 4)
	solves(t, "the same summary", c, of(t, caller, fn(1, 1, 4, "v2 = v0;return v2")), 2)
	solves(t, "the same summary, by a call", c, of(t, caller, caller0(2), fn(1, 1, 1, back)), 2)
	solves(t, "another summary", c, of(t, caller, fn(1, 1, 1, "g0 = v0;return v0")), 4)
	solves(t, "another summary by another function", c, of(t, caller, fn(1, 1, 2, "v1 = &v0;return v1")), 2)
	solves(t, "a lower one", c, of(t, caller, fn(1, 1, 2, "return v1")), 2) // one pass each: nothing changes
	solves(t, "as it was", c, of(t, caller, fn(1, 1, 1, back)), 0)
	solves(t, "more globals", c, with(t, 16, caller, fn(1, 1, 1, back)), 0)
	solves(t, "the same lines with other numbers in them", c, of(t, caller, fn(1, 1, 1, "return v0;return v0")), 2)
}

// caller0: one that hands on to a function and gives back what it was given.
func caller0(callee int) string {
	return fn(1, 1, 2, "v1 = f"+string(rune('0'+callee))+"(v0);return v0")
}

// Passes are those of solve.Component, rounds times members, whatever else there is.
func TestPassesOfRings(t *testing.T) {
	for _, x := range []struct {
		what   string
		p      api.Program
		passes int
	}{
		{"nothing ever flows", of(t, fn(1, 1, 2, "v1 = f0(v0);return v1")), 1},
		{"once", of(t, fn(1, 1, 2, "if v0 jump 3;v1 = f0(v0);return v1;return v0")), 2},
		{"a ring of two in which nothing flows", of(t, fn(1, 1, 2, "v1 = f1(v0);return v1"), fn(1, 1, 2, "v1 = f0(v0);return v1")), 2},
		{"a ring of three, against its order", of(t, fn(1, 0, 1, "f1(v0);return"), fn(1, 0, 1, "f2(v0);return"), fn(1, 0, 1, "f0(v0);g0 = v0;return")), 12},
		{"a ring of three, in its order", of(t, fn(1, 0, 1, "f2(v0);g0 = v0;return"), fn(1, 0, 1, "f0(v0);return"), fn(1, 0, 1, "f1(v0);return")), 6},
		{"numbers that fall one by one", of(t, fn(1, 0, 5, "v1 = v0.0;v2 = v1.0;v3 = v2.0;g0 = v3;v4 = &v0;f0(v4);return")), 5},
	} {
		c := cache.New()
		solves(t, x.what, c, x.p, x.passes)
		solves(t, x.what+", again", c, x.p, 0)
		solves(t, x.what+", loaded", loaded(t, c.Bytes()), x.p, 0)
	}
}
