package cache_test

import (
	"bytes"
	"math/rand"
	"slices"
	"strings"
	"testing"

	"fugue/api"
	"fugue/cache"
)

// reads: Load lets bytes pass just if they are a cache's, and then they are that cache's; do they?
func reads(t *testing.T, what string, b []byte) bool {
	t.Helper()
	_, is := itemsOf(b)
	if is {
		loaded(t, b)
		return true
	}
	if c, e := cache.Load(b); c != nil || e != api.ErrCache {
		t.Fatalf("P21.3: %s: Load of %s: %v, error %d, want nil and ErrCache", what, brief(b), c != nil, e)
	}
	return false
}

func passed(t *testing.T, what string, b []byte) {
	t.Helper()
	if !reads(t, what, b) {
		t.Fatalf("%s: the test's bytes are no cache's: %s", what, brief(b))
	}
}

func refused(t *testing.T, what string, b []byte) {
	t.Helper()
	if reads(t, what, b) {
		t.Fatalf("%s: the test's bytes are a cache's: %s", what, brief(b))
	}
}

// The bytes of a cache, byte by byte.
func TestBytes(t *testing.T) {
	c := cache.New()
	solves(t, "the least program", c, api.Program{Funcs: []api.Func{{Code: []api.Instr{ret()}}}}, 1)
	want := slices.Concat([]byte{0x66, 0x67, 2},
		[]byte{16, 0, 0, 0}, []byte{0x66, 0x75, 0x67, 0x75, 0x65, 1, 16, 1, 0, 0, 0, 0, 1, 0, 0x0f, 0},
		[]byte{10, 0, 0, 0}, []byte{0x66, 0x67, 1, 1, 0, 0, 0, 0, 0, 0},
		[]byte{6, 0, 0, 0}, []byte{0x63, 0x65, 0, 0, 0, 0})
	if b := c.Bytes(); !bytes.Equal(b, want) {
		t.Errorf("P21.3: Bytes: %x, want %x", b, want)
	}
	passed(t, "the least program", want)
}

// Keys rise byte by byte: without sign, and what is the beginning of another one ahead of it; neither their length nor the order in which they came counts.
func TestOrderOfKeys(t *testing.T) {
	l := []item{{"", "x", ""}, {"\x00", "", "y"}, {"\x00\x00", "", ""}, {"\x00\xff", "", ""}, {"\x01", "", ""}, {"A", "", ""}, {"AAAAAAAAAAAAAAAAAAAAAAAAAAAA", "", ""}, {"B", "", ""}, {"\x7f", "", ""}, {"\x80", "", ""}, {"\xff", "", ""}, {"\xff\x00", "", ""}}
	passed(t, "rising keys", bytesOf(l...))
	for i := range l {
		passed(t, "one key", bytesOf(l[i]))
		for k := range l {
			if i < k {
				passed(t, "two rising keys", bytesOf(l[i], l[k]))
			} else {
				refused(t, "a key twice, or two that fall", bytesOf(l[i], l[k]))
			}
		}
		swapped := slices.Clone(l)
		k := (i + 1) % len(l)
		swapped[i], swapped[k] = swapped[k], swapped[i]
		refused(t, "one that falls", bytesOf(swapped...))
		refused(t, "one twice", bytesOf(slices.Insert(slices.Clone(l), i, l[i])...))
		refused(t, "one twice, with another pair", bytesOf(slices.Insert(slices.Clone(l), i, item{l[i].key, "another", "pair"})...))
	}
	p := several(t)
	var programs []api.Program
	for i := range p.Funcs {
		q := of(t, fn(0, 0, i, "return"))
		programs = append(programs, q, p)
	}
	for _, turn := range [][]api.Program{programs, {programs[6], programs[4], p, programs[2], programs[0]}} {
		c := cache.New()
		for _, q := range turn {
			c.Solve(q)
		}
		if got := items(t, c); len(got) != 7 {
			t.Errorf("P21.3: %d entries, want 7", len(got))
		}
		loaded(t, c.Bytes())
	}
}

// Cut anywhere, the bytes are a cache's just where an entry ends.
func TestCut(t *testing.T) {
	b := bytesOf(item{"", "", ""}, item{"a", "bc", "def"}, item{"aa", "", "x"}, item{"b", "y", ""})
	good := 0
	for n := range b {
		if reads(t, "cut", b[:n]) {
			good++
		}
	}
	if good != 4 {
		t.Errorf("P21.3: cut at %d places it is a cache, not at 4", good)
	}
	for _, more := range [][]byte{{0}, {0xff}, {0, 0, 0, 0}, {1, 0, 0, 0, 0x63}, {0, 0, 0, 0, 0, 0, 0, 0, 0, 0, 0, 0}} {
		refused(t, "more behind it", append(slices.Clone(b), more...))
	}
	passed(t, "an entry more", append(slices.Clone(b), 1, 0, 0, 0, 0x63, 0, 0, 0, 0, 0, 0, 0, 0))
}

// Lengths that are too long, one too short, and such as are near the greatest that four bytes hold.
func TestLengths(t *testing.T) {
	for part := range 3 {
		x := []string{"key", "result", "certificate"}
		b := bytesOf(item{x[0], x[1], x[2]})
		passed(t, "as it should be", b)
		at := 3
		for k := range part {
			at += 4 + len(x[k])
		}
		for _, n := range []uint32{0, uint32(len(x[part])) - 1, uint32(len(x[part])) + 1, 255, 256, 1 << 16, 1<<31 - 1, 1 << 31, 1<<32 - 4, 1<<32 - 1} {
			d := slices.Clone(b)
			d[at], d[at+1], d[at+2], d[at+3] = byte(n), byte(n>>8), byte(n>>16), byte(n>>24)
			refused(t, "another length", d)
		}
	}
	long := item{strings.Repeat("k", 300), strings.Repeat("r", 70000), strings.Repeat("c", 1<<24+5)}
	b := bytesOf(long)
	passed(t, "long parts", b)
	refused(t, "long parts, a byte less", b[:len(b)-1])
}

func TestOtherMarks(t *testing.T) {
	b := bytesOf(item{"a", "b", "c"})
	passed(t, "as it should be", b)
	for i := range 3 {
		for bit := range 8 {
			d := slices.Clone(b)
			d[i] ^= 1 << bit
			refused(t, "another mark", d)
			refused(t, "another mark alone", d[:3])
		}
	}
	refused(t, "the mark of results", []byte{0x66, 0x67, 1})
	refused(t, "a program", []byte(encoded(t, several(t))))
	refused(t, "behind a byte", append([]byte{0}, b...))
}

// Keys that are no programs, results and certificates that are nothing, stay as they are, whatever is solved.
func TestNothingIsAsked(t *testing.T) {
	l := []item{{"", "", ""}, {"fugue", "is", "not"}, {"fugue\x01\x10\x01\x00", "", ""}, {"no program", "no result", "no certificate"}}
	b := bytesOf(l...)
	c := loaded(t, b)
	refuses(t, "a wrong program", c, api.Program{}, api.ErrHead)
	tried(t, "beside what is nothing", several(t), l...)
	solves(t, "beside what is nothing", c, several(t), 9)
	got := items(t, c)
	for _, x := range l {
		if !slices.Contains(got, x) {
			t.Errorf("P21.3: the entry %v is no more as it was", x)
		}
	}
}

// Bytes by chance, near those of caches.
func TestAnyBytes(t *testing.T) {
	good := 0
	for seed := range 60000 {
		r := rand.New(rand.NewSource(int64(seed)))
		some := func() string {
			b := make([]byte, r.Intn(4))
			for i := range b {
				b[i] = byte(r.Intn(3))
			}
			return string(b)
		}
		var l []item
		for range r.Intn(5) {
			l = append(l, item{some(), some(), some()})
		}
		if r.Intn(2) == 0 {
			slices.SortFunc(l, func(a, b item) int { return strings.Compare(a.key, b.key) })
		}
		b := bytesOf(l...)
		for range r.Intn(3) {
			switch at := r.Intn(len(b)); r.Intn(4) {
			case 0:
				b[at] = byte(r.Intn(5))
			case 1:
				b = b[:max(at, 1)]
			case 2:
				b = slices.Insert(b, at, byte(r.Intn(3)))
			case 3:
				b = slices.Delete(b, at, min(at+1+r.Intn(4), len(b)))
			}
			if len(b) == 0 {
				break
			}
		}
		if reads(t, "any bytes", b) {
			good++
		}
	}
	if good < 10000 || good > 50000 {
		t.Errorf("%d of 60000 were a cache's", good)
	}
}

func FuzzLoad(f *testing.F) {
	f.Add(bytesOf())
	f.Add(bytesOf(item{"", "", ""}, item{"a", "bc", "def"}))
	f.Fuzz(func(t *testing.T, b []byte) { reads(t, "fuzz", b) })
}
