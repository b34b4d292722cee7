package cache_test

import (
	"bytes"
	"math/rand"
	"reflect"
	"slices"
	"testing"

	"fugue/api"
	"fugue/cache"
)

const mark = -77 // stands in spare room

// roomy: the same list with spare room behind it, in which more stands.
func roomy[T any](l []T, more T) []T {
	return append(append(make([]T, 0, len(l)+3), l...), more, more, more)[:len(l)]
}

func fill[T any](l []T, x T) {
	l = l[:cap(l)]
	for i := range l {
		l[i] = x
	}
}

// full: a list with its spare room, in new memory.
func full[T any](l []T) []T { return slices.Clone(l[:cap(l)]) }

// roomyProgram: the same program; in the spare room behind its lists stands what would be right there too.
func roomyProgram(p api.Program) api.Program {
	l := slices.Clone(p.Funcs)
	for i, f := range l {
		c := slices.Clone(f.Code)
		for at, x := range c {
			c[at].Args, c[at].Rets = roomy(x.Args, mark), roomy(x.Rets, mark)
		}
		l[i].Code = roomy(c, api.Instr{Op: api.Jump})
	}
	p.Funcs = roomy(l, api.Func{Code: []api.Instr{ret()}})
	return p
}

// inIt: all that stands in a program, in spare room too, in new memory.
func inIt(p api.Program) api.Program {
	p.Funcs = full(p.Funcs)
	for i, f := range p.Funcs {
		c := full(f.Code)
		for at, x := range c {
			c[at].Args, c[at].Rets = full(x.Args), full(x.Rets)
		}
		p.Funcs[i].Code = c
	}
	return p
}

// spoilProgram: nothing is left of a program, in spare room neither.
func spoilProgram(p api.Program) {
	for _, f := range p.Funcs[:cap(p.Funcs)] {
		for _, x := range f.Code[:cap(f.Code)] {
			fill(x.Args, mark)
			fill(x.Rets, mark)
		}
		fill(f.Code, api.Instr{Op: api.Call, N: mark})
	}
	fill(p.Funcs, api.Func{Vars: mark})
}

// spoilResult: nothing is left of a result, in spare room neither.
func spoilResult(r api.Result) {
	for _, s := range r.Sums[:cap(r.Sums)] {
		fill(s.Heap, mark)
		for _, l := range s.Result[:cap(s.Result)] {
			fill(l, mark)
		}
		fill(s.Result, []int{mark})
	}
	for _, lists := range [][][]bool{r.Vars, r.Code} {
		for _, l := range lists[:cap(lists)] {
			l = l[:cap(l)]
			for i := range l {
				l[i] = !l[i]
			}
		}
		fill(lists, []bool{true})
	}
	fill(r.Sums, api.Summary{Heap: []int{mark}})
}

// anyPrograms: some programs by chance, one made of another.
func anyPrograms(seed int) []api.Program {
	r := rand.New(rand.NewSource(int64(seed)))
	a := kinds[seed%len(kinds)]
	l := []api.Program{anyProgram(r, a)}
	for range 3 {
		l = append(l, edited(r, l[len(l)-1], a))
	}
	return l
}

// What is handed in is as it was, in spare room too, whether an answer comes from the entries or is found, or is an error.
func TestArgumentsStay(t *testing.T) {
	for seed := range 300 {
		c := cache.New()
		for _, p := range anyPrograms(seed) {
			p = roomyProgram(p)
			before := inIt(p)
			for range 2 {
				r, _, e := c.Solve(p)
				if e != api.OK || !reflect.DeepEqual(inIt(p), before) {
					t.Fatalf("R5: seed %d: Solve changed its argument, or has the error %d", seed, e)
				}
				spoilResult(r)
				if !reflect.DeepEqual(inIt(p), before) {
					t.Fatalf("R5: seed %d: an answer shares memory with the argument", seed)
				}
			}
			p.Funcs[0].Code[len(p.Funcs[0].Code)-1].Op = 99
			before = inIt(p)
			if _, _, e := c.Solve(p); e == api.OK || !reflect.DeepEqual(inIt(p), before) {
				t.Fatalf("R5: seed %d: Solve changed a wrong argument", seed)
			}
		}
		b := roomy(c.Bytes(), 7)
		before := full(b)
		d, e := cache.Load(b)
		if e != api.OK || !bytes.Equal(full(b), before) {
			t.Fatalf("R5: seed %d: Load changed its argument, or has the error %d", seed, e)
		}
		d.Solve(several(t))
		fill(d.Bytes(), 9)
		if !bytes.Equal(full(b), before) {
			t.Fatalf("R5: seed %d: a cache shares memory with what it was loaded from", seed)
		}
		if _, e := cache.Load(b[:len(b)-1]); e != api.ErrCache || !bytes.Equal(full(b), before) {
			t.Fatalf("R5: seed %d: Load changed bytes that are no cache's", seed)
		}
	}
}

// What becomes of what was handed in, and of what was answered, changes no other answer.
func TestNothingIsShared(t *testing.T) {
	t.Parallel()
	for seed := range 300 {
		c, twin := cache.New(), cache.New()
		var results, were []api.Result
		for _, p := range anyPrograms(seed) {
			q := roomyProgram(p)
			for range 3 { // found, and from the entries
				r, n, _ := c.Solve(q)
				w, m, _ := twin.Solve(p)
				if n != m || !alikeResult(r, w) {
					t.Fatalf("R5: seed %d: %d passes, %s, where nothing is spoilt %d, %s", seed, n, brief(r), m, brief(w))
				}
				other, _, _ := c.Solve(q)
				spoilResult(r)
				if !alikeResult(other, w) {
					t.Fatalf("R5: seed %d: two results share memory", seed)
				}
				results, were = append(results, other), append(were, w)
			}
			spoilProgram(q)
			b := c.Bytes()
			fill(b, 0)
			b = c.Bytes()
			if !bytes.Equal(b, twin.Bytes()) {
				t.Fatalf("R5: seed %d: the cache is another one where things are spoilt", seed)
			}
			d, e := cache.Load(b)
			fill(b, 0xff)
			if e != api.OK || !bytes.Equal(d.Bytes(), twin.Bytes()) || !bytes.Equal(c.Bytes(), twin.Bytes()) {
				t.Fatalf("R5: seed %d: a cache has changed with bytes", seed)
			}
			solves(t, "loaded from what was spoilt", d, p, 0)
		}
		if !slices.EqualFunc(results, were, alikeResult) {
			t.Fatalf("R5: seed %d: a result has changed behind its call", seed)
		}
	}
}

// Bytes that were answered stay, whatever the cache learns.
func TestBytesStay(t *testing.T) {
	for seed := range 100 {
		c := cache.New()
		var got, were [][]byte
		for _, p := range anyPrograms(seed) {
			c.Solve(p)
			got, were = append(got, c.Bytes()), append(were, c.Bytes())
		}
		fill(got[0], 1)
		if !slices.EqualFunc(got[1:], were[1:], bytes.Equal) {
			t.Fatalf("R5: seed %d: bytes have changed behind their call", seed)
		}
	}
}

// ownRooms: no two lists share memory, spare room too: each is filled with its number, which then stands there still.
func ownRooms[T any](t *testing.T, what string, lists [][]T, number func(int) T, is func(T, int) bool) {
	t.Helper()
	for i, l := range lists {
		fill(l, number(i))
	}
	for i, l := range lists {
		for _, x := range l[:cap(l)] {
			if !is(x, i) {
				t.Fatalf("R5: %s: the list %d shares memory with another", what, i)
			}
		}
	}
}

// No two lists of one result share memory, where components are alike too.
func TestListsOfOneAnswer(t *testing.T) {
	for seed := range 200 {
		p := anyPrograms(seed)[0]
		p.Funcs = append(p.Funcs, p.Funcs...) // those that call nobody in a ring are alike, in the same memory
		c := cache.New()
		for range 2 {
			r, _, e := c.Solve(p)
			if e != api.OK {
				t.Fatalf("P21.1: seed %d: error %d", seed, e)
			}
			var numbers [][]int
			for _, x := range r.Sums {
				numbers = append(append(numbers, x.Heap), x.Result...)
			}
			ownRooms(t, "summaries", numbers, func(i int) int { return i }, func(x, i int) bool { return x == i })
			truths := append(slices.Clone(r.Vars), r.Code...)
			for bit := 1; bit <= len(truths); bit *= 2 { // a truth holds no number: bit by bit
				has := func(i int) bool { return i&bit > 0 }
				ownRooms(t, "places", truths, has, func(x bool, i int) bool { return x == has(i) })
			}
			ownRooms(t, "lists of places", [][][]bool{r.Vars, r.Code}, func(i int) []bool { return make([]bool, i) }, func(x []bool, i int) bool { return len(x) == i })
		}
	}
}

// Two caches know nothing of one another, be they new, loaded from the same bytes, or one from the other's.
func TestTwoCaches(t *testing.T) {
	p := several(t)
	one, two := cache.New(), cache.New()
	solves(t, "the one", one, p, 9)
	if len(items(t, two)) > 0 {
		t.Errorf("P21.4: a cache learns what another one is given")
	}
	solves(t, "the other", two, p, 9)
	three := loaded(t, one.Bytes())
	four := loaded(t, one.Bytes())
	solves(t, "another program", one, base(t), passesOf(t, base(t)))
	solves(t, "another program, where it is not known", three, base(t), passesOf(t, base(t)))
	if !bytes.Equal(one.Bytes(), three.Bytes()) || !bytes.Equal(two.Bytes(), four.Bytes()) || bytes.Equal(one.Bytes(), two.Bytes()) {
		t.Errorf("P21.4: a cache learns what another one is given")
	}
	solves(t, "another program, where it is not known", two, base(t), passesOf(t, base(t)))
	solves(t, "another program, where it is not known", four, base(t), passesOf(t, base(t)))
}

// passesOf: those of a new cache, as the words say.
func passesOf(t *testing.T, p api.Program) int {
	t.Helper()
	return plainCache{}.solve(t, p, &seen{})
}

// Caches that are used at one time, each by one goroutine, answer as they do by themselves; one that nobody solves with may be told by several.
func TestAtOneTime(t *testing.T) {
	for seed := range 10 {
		programs := anyPrograms(seed)
		alone := cache.New()
		var total []int
		for _, p := range programs {
			_, n, _ := alone.Solve(p)
			total = append(total, n)
		}
		want := alone.Bytes()
		good := make(chan bool)
		for range 8 {
			go func() {
				is := true
				for range 10 {
					c := cache.New()
					for i, p := range programs {
						_, n, _ := c.Solve(p)
						is = is && n == total[i]
					}
					is = is && bytes.Equal(c.Bytes(), want) && bytes.Equal(alone.Bytes(), want)
				}
				good <- is
			}()
		}
		for range 8 {
			if !<-good {
				t.Errorf("R6: seed %d: at one time it answers otherwise", seed)
			}
		}
	}
}
