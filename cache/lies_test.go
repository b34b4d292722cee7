package cache_test

import (
	"encoding/binary"
	"slices"
	"testing"

	"fugue/api"
	"fugue/cache"
	"fugue/cert"
	"fugue/code"
	"fugue/sums"
	"fugue/whole"
)

// turned: a text with some bits of one byte the other way round.
func turned(s string, at int, bits byte) string {
	b := []byte(s)
	b[at] ^= bits
	return string(b)
}

// passes: the bytes of a certificate.
func passes(l ...int) string {
	b := binary.LittleEndian.AppendUint32([]byte("ce"), uint32(len(l)))
	for _, f := range l {
		b = binary.LittleEndian.AppendUint16(b, uint16(f))
	}
	return string(b)
}

// honest: the entries that a new cache has behind a program.
func honest(t *testing.T, p api.Program) []item {
	t.Helper()
	c := cache.New()
	agrees(t, "honest", c, plainCache{}, p, &seen{})
	return items(t, c)
}

// taken: with such an entry in the place of the honest one with this key, all passes of its components are taken anew, and the entries are honest from then on.
func taken(t *testing.T, what string, p api.Program, l []item, lie item, want int) {
	t.Helper()
	all := slices.Clone(l)
	i := slices.IndexFunc(all, func(x item) bool { return x.key == lie.key })
	if all[i] == lie {
		t.Fatalf("%s: that is no lie", what)
	}
	all[i] = lie
	c := loaded(t, bytesOf(all...))
	solves(t, what, c, p, want)
	if !slices.Equal(items(t, c), l) {
		t.Fatalf("P21.1: %s: the entries are not right from then on", what)
	}
	solves(t, what+", again", c, p, 0)
}

// decoded: the program that a key is.
func decoded(t *testing.T, key string) api.Program {
	t.Helper()
	p, e, at := code.Decode([]byte(key))
	if e != api.OK {
		t.Fatalf("P21.1: a key that is no program: error %d at %d", e, at)
	}
	return p
}

// resultOf: the bytes of what summaries lead to.
func resultOf(t *testing.T, p api.Program, l []api.Summary) string {
	t.Helper()
	r, e := whole.Place(p, l)
	b, e1 := sums.EncodeResult(p, r)
	if e+e1 != api.OK {
		t.Fatalf("no summaries of the program: %v", l)
	}
	return string(b)
}

// copies: summaries in new memory.
func copies(l []api.Summary) []api.Summary {
	var c []api.Summary
	for _, s := range l {
		x := api.Summary{Heap: slices.Clone(s.Heap)}
		for _, l := range s.Result {
			x.Result = append(x.Result, slices.Clone(l))
		}
		c = append(c, x)
	}
	return c
}

// places: where the numbers of summaries stand.
func places(l []api.Summary) []*int {
	var at []*int
	for _, s := range l {
		for i := range s.Heap {
			at = append(at, &s.Heap[i])
			for j := range s.Result[i] {
				at = append(at, &s.Result[i][j])
			}
		}
	}
	return at
}

// several: a program of three components, with a ring of two among them.
func several(t *testing.T) api.Program {
	t.Helper()
	return of(t,
		fn(0, 1, 3, "v0 = new 1;v1 = &v0;v2 = f1(v1);return v2"),
		fn(1, 1, 2, "v1 = v0.0;v1 = f2(v1);return v1"),
		fn(1, 1, 2, "if v0 jump 3;v1 = f1(v0);return v1;v1 = f3(v0);return v1"),
		fn(1, 1, 2, "v1 = &v0;g0 = v1;return v0"),
	)
}

// bySize: the passes that the component of an entry takes: f3, the ring with a stub, f0 with a stub. (The ring's first changes in the second round alone.)
func bySize(t *testing.T, x item) int {
	t.Helper()
	switch q := decoded(t, x.key); len(q.Funcs) {
	case 1:
		return 2
	case 3:
		return 6
	}
	return 1
}

func TestSeveral(t *testing.T) {
	p := several(t)
	l := honest(t, p)
	if len(l) != 3 {
		t.Fatalf("%d entries", len(l))
	}
	solves(t, "all", cache.New(), p, 9)
	for i := range l {
		c := loaded(t, bytesOf(slices.Delete(slices.Clone(l), i, i+1)...))
		solves(t, "one is missing", c, p, bySize(t, l[i]))
		solves(t, "all are there again", c, p, 0)
		solves(t, "one alone is there", loaded(t, bytesOf(l[i])), p, 9-bySize(t, l[i]))
	}
}

// Another number in a summary, be it one of a member or of a stub: with the places that it leads to, and with those of the least solution.
func TestOtherSummaries(t *testing.T) {
	p := several(t)
	l := honest(t, p)
	for _, x := range l {
		q := decoded(t, x.key)
		least := solved(t, q)
		for n := range places(least.Sums) {
			for _, d := range []int{0, 1, 2, 3, none} {
				other := least
				other.Sums = copies(least.Sums)
				at := places(other.Sums)[n]
				if *at == d {
					continue
				}
				*at = d
				b, _ := sums.EncodeResult(q, other)
				taken(t, "another number", p, l, item{x.key, string(b), x.certificate}, bySize(t, x))
				taken(t, "another number and where it leads", p, l, item{x.key, resultOf(t, q, other.Sums), x.certificate}, bySize(t, x))
			}
		}
	}
}

// Another place for a site.
func TestOtherPlaces(t *testing.T) {
	p := several(t)
	l := honest(t, p)
	for _, x := range l {
		q := decoded(t, x.key)
		for f := range q.Funcs {
			for v := range q.Funcs[f].Vars {
				other := solved(t, q)
				other.Vars[f][v] = !other.Vars[f][v]
				b, _ := sums.EncodeResult(q, other)
				taken(t, "another place of a variable", p, l, item{x.key, string(b), x.certificate}, bySize(t, x))
			}
			for at, in := range q.Funcs[f].Code {
				if in.Op == api.New {
					other := solved(t, q)
					other.Code[f][at] = !other.Code[f][at]
					b, _ := sums.EncodeResult(q, other)
					taken(t, "another place of a New", p, l, item{x.key, string(b), x.certificate}, bySize(t, x))
				}
			}
		}
	}
}

// A solution that is not the least: a ring that holds itself up, and one of two.
func TestNotTheLeast(t *testing.T) {
	for _, c := range []struct {
		p      api.Program
		passes int
	}{
		{of(t, fn(1, 1, 2, "v1 = f0(v0);return v1")), 1},
		{of(t, fn(1, 1, 2, "v1 = f1(v0);return v1"), fn(1, 1, 2, "v1 = f0(v0);return v1")), 2},
	} {
		l := honest(t, c.p)
		q := decoded(t, l[0].key)
		for _, heap := range []int{0, 1, 2, 3, none} {
			for _, result := range []int{0, 1, 2, 3, none} {
				var up []api.Summary
				for range q.Funcs {
					up = append(up, api.Summary{Heap: []int{heap}, Result: [][]int{{result}}})
				}
				if is, _ := whole.Is(q, up); !is {
					t.Fatalf("the test's summaries %v are no solution", up)
				}
				if heap == none && result == none {
					continue // the least
				}
				for _, why := range []string{l[0].certificate, passes(), passes(0), passes(0, 1), passes(1, 0), passes(0, 0)} {
					taken(t, "what holds itself up", c.p, l, item{l[0].key, resultOf(t, q, up), why}, c.passes)
				}
			}
		}
	}
}

// A result of another program, or a certificate of another one, or both, under this key.
func TestOtherPrograms(t *testing.T) {
	p := several(t)
	l := honest(t, p)
	more := append(honest(t, chapter(t)), l...)
	for _, x := range l {
		for _, y := range more {
			if y.key == x.key {
				continue
			}
			tried(t, "another result", p, item{x.key, y.result, x.certificate})
			tried(t, "another certificate", p, item{x.key, x.result, y.certificate})
			taken(t, "another pair", p, l, item{x.key, y.result, y.certificate}, bySize(t, x))
		}
		taken(t, "the two for each other", p, l, item{x.key, x.certificate, x.result}, bySize(t, x))
		taken(t, "neither", p, l, item{key: x.key}, bySize(t, x))
	}
}

// Results that are cut, have a byte more, or a bit the other way round.
func TestSpoiltResults(t *testing.T) {
	p := several(t)
	l := honest(t, p)
	for _, x := range l {
		for i := range x.result {
			taken(t, "a result that is cut", p, l, item{x.key, x.result[:i], x.certificate}, bySize(t, x))
			for bit := range 8 {
				taken(t, "a result with a bit turned", p, l, item{x.key, turned(x.result, i, 1<<bit), x.certificate}, bySize(t, x))
			}
		}
		for _, by := range []string{"\x00", "\x09", x.result} {
			taken(t, "a result with more behind it", p, l, item{x.key, x.result + by, x.certificate}, bySize(t, x))
		}
	}
}

// Certificates that are cut, have more behind them, or a bit the other way round: these may be right too, and then nothing is solved anew and the entry stays.
func TestSpoiltCertificates(t *testing.T) {
	p := several(t)
	l := honest(t, p)
	for _, x := range l {
		q := decoded(t, x.key)
		for i := range x.certificate {
			taken(t, "a certificate that is cut", p, l, item{x.key, x.result, x.certificate[:i]}, bySize(t, x))
			for bit := range 8 {
				other := item{x.key, x.result, turned(x.certificate, i, 1<<bit)}
				tried(t, "a certificate with a bit turned", p, other)
				if !believes(q, other) {
					taken(t, "a certificate with a bit turned", p, l, other, bySize(t, x))
				}
			}
		}
		for _, by := range []string{"\x00", "\x00\x00", x.certificate} {
			taken(t, "a certificate with more behind it", p, l, item{x.key, x.result, x.certificate + by}, bySize(t, x))
		}
	}
}

// Another certificate than the one that is made may be right too: it is believed, and stays.
func TestOtherRightCertificates(t *testing.T) {
	p := of(t, fn(1, 1, 2, "if v0 jump 2;g0 = v0;v1 = f1(v0);return v0"), fn(1, 1, 2, "if v0 jump 2;g1 = v0;v1 = f0(v0);return v0"))
	l := honest(t, p)
	if len(l) != 1 {
		t.Fatalf("%d entries of one ring", len(l))
	}
	q := decoded(t, l[0].key)
	for _, why := range []string{passes(0, 1), passes(1, 0)} {
		x := item{l[0].key, l[0].result, why}
		if cert.Check(q, solved(t, q), []byte(why)) != api.OK {
			t.Fatalf("the test's certificate is not right")
		}
		c := loaded(t, bytesOf(x))
		solves(t, "another right certificate", c, p, 0)
		if got := items(t, c); !slices.Equal(got, []item{x}) {
			t.Errorf("P21.1: an entry that is believed has become another one")
		}
	}
}

// A lie in one entry is no harm to others: those that call the component are believed still, since its summaries are right.
func TestAllLie(t *testing.T) {
	p := several(t)
	l := honest(t, p)
	var lies []item
	for _, x := range l {
		lies = append(lies, item{key: x.key, result: x.result})
	}
	c := loaded(t, bytesOf(lies...))
	solves(t, "all lie", c, p, 9)
	if !slices.Equal(items(t, c), l) {
		t.Errorf("P21.1: not all entries are right from then on")
	}
	solves(t, "none lies", c, p, 0)
}

// Entries of other keys are never asked, and stay as they are.
func TestOthersStay(t *testing.T) {
	p := several(t)
	l := honest(t, p)
	other := []item{{"", "a", "b"}, {"\x00", "", ""}, {l[0].key + "\x00", l[0].result, l[0].certificate}, {l[0].key[:20], l[0].result, l[0].certificate}, {"zzz", l[1].result, ""}}
	tried(t, "among others", p, append(other, l...)...)
	tried(t, "others alone", p, other...)
	c := loaded(t, plainOf(other).bytes())
	solves(t, "others alone", c, p, 9)
	if got := items(t, c); len(got) != len(other)+len(l) {
		t.Errorf("P21.1: %d entries, want %d", len(got), len(other)+len(l))
	}
}
