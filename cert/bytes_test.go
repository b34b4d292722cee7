package cert_test

import (
	"encoding/binary"
	"runtime"
	"slices"
	"testing"

	"fugue/api"
	"fugue/cert"
)

// pair: f0 falls four times, f1 hands on to it.
func pair(t *testing.T) api.Program {
	t.Helper()
	return of(t, fn(1, 0, 5, falls), fn(1, 0, 1, "f0(v0);return"))
}

// withCount: the bytes with another count.
func withCount(b []byte, count uint32) []byte {
	b = slices.Clone(b)
	binary.LittleEndian.PutUint32(b[2:], count)
	return b
}

// Bytes that are no certificate's, of programs for which there are right ones, the empty one too.
func TestNoCertificates(t *testing.T) {
	for _, c := range []struct {
		p      api.Program
		passes []int
	}{
		{of(t, fn(0, 0, 0, "return")), nil},
		{of(t, fn(1, 0, 1, "g0 = v0;return")), []int{0}},
		{pair(t), []int{0, 0, 0, 0, 1}},
	} {
		r, b := solved(t, c.p), bytesOf(c.passes...)
		accepts(t, "a right one", c.p, r, b)
		refuses(t, "no bytes", c.p, r, nil)
		refuses(t, "no bytes", c.p, r, []byte{})
		for n := range b {
			refuses(t, "cut off", c.p, r, b[:n])
		}
		for more := range 256 {
			refuses(t, "one byte more", c.p, r, append(slices.Clone(b), byte(more)))
			refuses(t, "one byte more ahead", c.p, r, append([]byte{byte(more)}, b...))
		}
		for at := range b[:6] {
			for x := range 256 {
				if byte(x) != b[at] {
					other := slices.Clone(b)
					other[at] = byte(x)
					refuses(t, "another byte of the head", c.p, r, other)
				}
			}
		}
		refuses(t, "the mark turned round", c.p, r, append([]byte{b[1], b[0]}, b[2:]...))
		refuses(t, "twice", c.p, r, append(slices.Clone(b), b...))
	}
}

func TestCounts(t *testing.T) {
	p := pair(t)
	r, b := solved(t, p), bytesOf(0, 0, 0, 0, 1)
	for _, count := range []uint32{0, 1, 2, 3, 4, 6, 7, 10, 16, 255, 256, 5 << 8, 5 << 16, 5 << 24, 1<<31 - 1, 1 << 31, 1<<31 + 4, 1<<31 + 5, 1<<31 + 6, 1<<32 - 5, 1<<32 - 2, 1<<32 - 1} {
		refuses(t, "another count", p, r, withCount(b, count))
		for n := range b {
			refuses(t, "another count, cut off", p, r, withCount(append(slices.Clone(b), 0, 0)[:max(n, 6)], count|1<<31))
		}
	}
	for _, count := range []uint32{4, 6} { // as many passes as it says, but others
		refuses(t, "other passes", p, r, withCount(append(slices.Clone(b), 0, 0)[:6+2*count], count))
	}
	accepts(t, "the same count", p, r, withCount(b, 5))
}

// A count alone asks for no memory.
func TestGreatCounts(t *testing.T) {
	p := pair(t)
	r := solved(t, p)
	var before, after runtime.MemStats
	runtime.ReadMemStats(&before)
	for _, count := range []uint32{1 << 20, 1 << 28, 1<<31 - 1, 1 << 31, 1<<32 - 1} {
		refuses(t, "a great count", p, r, withCount(bytesOf(), count))
		refuses(t, "a great count", p, r, withCount(bytesOf(0, 0, 0, 0, 1), count))
	}
	runtime.ReadMemStats(&after)
	if took := after.TotalAlloc - before.TotalAlloc; took > 1<<20 {
		t.Errorf("P19.2: counts alone took %d bytes", took)
	}
}

// A pass that names no function: amid right ones, and alone.
func TestNoFunctions(t *testing.T) {
	p := pair(t)
	r, right := solved(t, p), []int{0, 0, 0, 0, 1}
	for _, no := range []int{2, 3, 5, 254, 255, 256, 257, 512, 513, 1 << 15, 1<<15 + 1, 65534, 65535} {
		for at := range right {
			other := slices.Clone(right)
			other[at] = no
			refuses(t, "no function", p, r, bytesOf(other...))
		}
		for at := range len(right) + 1 {
			refuses(t, "no function besides", p, r, bytesOf(slices.Insert(slices.Clone(right), at, no)...))
		}
		refuses(t, "no function alone", p, r, bytesOf(no))
		q := of(t, fn(0, 0, 0, "return"))
		refuses(t, "no function alone", q, solved(t, q), bytesOf(no))
	}
}

// Both bytes of a pass count, and more than one byte of the count does.
func TestWideNumbers(t *testing.T) {
	p := api.Program{Globals: 1}
	for n := range 600 {
		f := api.Func{Params: 1, Vars: 1, Code: []api.Instr{ret()}}
		if n == 258 {
			f.Code = []api.Instr{{Op: api.Set}, ret()}
		}
		p.Funcs = append(p.Funcs, f)
	}
	r := solved(t, p)
	want := []byte{0x63, 0x65, 1, 0, 0, 0, 2, 1}
	if b, e := cert.Make(p); e != api.OK || !slices.Equal(b, want) {
		t.Errorf("P19.1: one of many functions: %x, error %d, want %x", b, e, want)
	}
	accepts(t, "one of many functions", p, r, want)
	for _, no := range [][2]byte{{1, 2}, {2, 0}, {0, 1}, {2, 2}, {3, 1}} {
		refuses(t, "another one of many functions", p, r, []byte{0x63, 0x65, 1, 0, 0, 0, no[0], no[1]})
	}
	for n := range p.Funcs {
		p.Funcs[n].Code = []api.Instr{{Op: api.Set}, ret()}
	}
	r = solved(t, p)
	b, e := cert.Make(p)
	if e != api.OK || len(b) != 6+1200 || !slices.Equal(b[:6], []byte{0x63, 0x65, 0x58, 2, 0, 0}) {
		t.Errorf("P19.1: many passes: %s, error %d", brief(b), e)
	}
	accepts(t, "many passes", p, r, b)
	refuses(t, "many passes but one", p, r, bytesOf(makes(t, "many passes", p)[1:]...))
	refuses(t, "the count turned round", p, r, withCount(b, 0x5802))
}

// A right certificate may be as long as there can be any, and no longer.
func TestLongestCertificates(t *testing.T) {
	p := of(t, fn(1, 0, 5, falls))
	r := solved(t, p)
	accepts(t, "as long as may be", p, r, bytesOf(0, 0, 0, 0))
	refuses(t, "one pass too long", p, r, bytesOf(0, 0, 0, 0, 0))
	p = pair(t)
	r = solved(t, p)
	accepts(t, "as long as may be", p, r, bytesOf(0, 1, 0, 1, 0, 1, 0, 1))
	refuses(t, "one pass too long", p, r, bytesOf(0, 1, 0, 1, 0, 1, 0, 1, 0))
	refuses(t, "one pass too long", p, r, bytesOf(0, 1, 0, 1, 0, 1, 0, 1, 1))
	q := of(t, fn(0, 4, 1, "return v0, v0, v0, v0"))
	refuses(t, "no numbers, but a pass", q, solved(t, q), bytesOf(0))
	for _, many := range []int{9, 100, 1 << 16, 1 << 20} {
		refuses(t, "far too long", p, r, bytesOf(append([]int{0, 0, 0, 0, 1}, make([]int, many)...)...))
		refuses(t, "far too long", p, r, bytesOf(slices.Repeat([]int{0, 1}, many)...))
		refuses(t, "far too long, and no certificate's", p, r, make([]byte, many))
		refuses(t, "far too long, with a count that is right for less", p, r, append(bytesOf(0, 0, 0, 0, 1), make([]byte, many)...))
	}
}
