package cache_test

import (
	"math/rand"
	"slices"
	"testing"

	"fugue/api"
	"fugue/cache"
	"fugue/engine"
	"fugue/sums"
)

// Programs by chance, one behind the other with one cache, each the last one with a function that is another: passes and entries are those that the words say.
func TestAnyPrograms(t *testing.T) {
	t.Parallel()
	var how seen
	for seed := range 500 {
		r := rand.New(rand.NewSource(int64(seed)))
		a := kinds[seed%len(kinds)]
		p := anyProgram(r, a)
		c, plain := cache.New(), plainCache{}
		for range 6 {
			agrees(t, "any program", c, plain, p, &how)
			solves(t, "again", c, p, 0)
			if r.Intn(3) == 0 {
				c = loaded(t, c.Bytes())
			}
			p = edited(r, p, a)
		}
	}
	if how.believed < 5000 || how.fresh < 3000 || how.rings < 300 || how.stubs < 1000 || how.several < 300 {
		t.Errorf("too few of a kind: %+v", how)
	}
}

// lied: an entry that is no more what it was, by chance.
func lied(r *rand.Rand, l []item, i int) item {
	x, y := l[i], l[r.Intn(len(l))]
	spoil := func(s string) string {
		if len(s) == 0 {
			return "x"
		}
		at := r.Intn(len(s))
		switch r.Intn(5) {
		case 0:
			return s[:at]
		case 1:
			return s + string(byte(r.Intn(10)))
		case 2:
			return turned(s, at, 1<<r.Intn(8))
		case 3:
			return s[:at] + string([]byte{[]byte{0, 1, 2, 3, 9}[r.Intn(5)]}) + s[at+1:]
		}
		return s[:at] + s[at+1:]
	}
	switch r.Intn(8) {
	case 0:
		x.result = y.result
	case 1:
		x.certificate = y.certificate
	case 2:
		x.result, x.certificate = y.result, y.certificate
	case 3, 4:
		x.certificate = spoil(x.certificate)
	case 5:
		x.key = spoil(x.key)
	default:
		x.result = spoil(x.result)
	}
	return x
}

// W10: caches that are spoilt by chance, in one place or in many: the result is whole.Solve's, and from then on nothing is solved anew.
func TestAnyLies(t *testing.T) {
	t.Parallel()
	var how seen
	for seed := range 1200 {
		r := rand.New(rand.NewSource(int64(seed)))
		a := kinds[seed%len(kinds)]
		p := anyProgram(r, a)
		c := cache.New()
		agreesOn(t, c, p)
		agreesOn(t, c, edited(r, p, a))
		l := items(t, c)
		for range 4 {
			spoilt := slices.Clone(l)
			for i := range spoilt {
				if r.Intn(3) == 0 {
					spoilt[i] = lied(r, l, i)
				}
			}
			plain := plainOf(spoilt)
			c := loaded(t, plain.bytes())
			agrees(t, "any lies", c, plain, p, &how)
			solves(t, "behind any lies", c, p, 0)
		}
	}
	if how.believed < 4000 || how.lied < 1200 || how.fresh < 300 {
		t.Errorf("too few of a kind: %+v", how)
	}
}

// Bytes that are spoilt as a whole: Load lets them pass or not; if it does, the result is right.
func TestAnySpoiltBytes(t *testing.T) {
	t.Parallel()
	good := 0
	for seed := range 300 {
		r := rand.New(rand.NewSource(int64(seed)))
		p := anyProgram(r, kinds[seed%len(kinds)])
		c := cache.New()
		agreesOn(t, c, p)
		b := c.Bytes()
		for range 20 {
			d := slices.Clone(b)
			for range 1 + r.Intn(3) {
				d[r.Intn(len(d))] ^= 1 << r.Intn(8)
			}
			if !reads(t, "spoilt", d) {
				continue
			}
			good++
			l, _ := itemsOf(d)
			tried(t, "spoilt", p, l...)
		}
	}
	if good < 1500 {
		t.Errorf("only %d were loaded", good)
	}
}

// The result is the engine's too, and the sums package's bytes of it are the engine's.
func TestAsTheEngine(t *testing.T) {
	c := cache.New()
	for seed := range 300 {
		r := rand.New(rand.NewSource(int64(seed)))
		p := anyProgram(r, kinds[seed%len(kinds)])
		got, _, e := c.Solve(p)
		b, e1 := sums.EncodeResult(p, got)
		if a := engine.Analyze([]byte(encoded(t, p)), 1+seed%64, some(r, 20, 64)...); e+e1 != api.OK || string(a.Bytes) != string(b) {
			t.Fatalf("W10: seed %d: %x, the engine: %x", seed, b, a.Bytes)
		}
	}
}

// Whatever order programs come in, the cache is the same in the end.
func TestOrderOfPrograms(t *testing.T) {
	for seed := range 100 {
		r := rand.New(rand.NewSource(int64(seed)))
		a := kinds[seed%len(kinds)]
		l := []api.Program{anyProgram(r, a)}
		for range 5 {
			l = append(l, edited(r, l[len(l)-1], a))
		}
		var first string
		total := -1
		for range 4 {
			c, passes := cache.New(), 0
			for _, i := range r.Perm(len(l)) {
				_, n, _ := c.Solve(l[i])
				passes += n
			}
			if total < 0 {
				first, total = string(c.Bytes()), passes
			}
			if string(c.Bytes()) != first || passes != total {
				t.Fatalf("P21.1: seed %d: in another order the cache is another one, or %d passes are taken, not %d", seed, passes, total)
			}
		}
	}
}
