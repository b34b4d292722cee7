package sums_test

import (
	"math/rand"
	"slices"
	"testing"

	"fugue/api"
	"fugue/sums"
)

// plainBits: bits as the digits of numbers, the last digit the first bit, cut into eights.
func plainBits(on []bool) []byte {
	var b []byte
	for len(on) > 0 {
		eight := on[:min(8, len(on))]
		on = on[len(eight):]
		n := 0
		for _, x := range slices.Backward(eight) {
			n *= 2
			if x {
				n++
			}
		}
		b = append(b, byte(n))
	}
	return b
}

// plain: a result's bytes by the chapter's words.
func plain(p api.Program, r api.Result) []byte {
	b := []byte{0x66, 0x67, 0x01, byte(len(p.Funcs) % 256), byte(len(p.Funcs) / 256)}
	for n, f := range p.Funcs {
		var news []bool
		for at, in := range f.Code {
			if in.Op == api.New {
				news = append(news, r.Code[n][at])
			}
		}
		b = append(b, byte(f.Params), byte(f.Results), byte(f.Vars), byte(len(news)%256), byte(len(news)/256))
		for i := range f.Params {
			b = append(b, byte(r.Sums[n].Heap[i]))
			for j := range f.Results {
				b = append(b, byte(r.Sums[n].Result[i][j]))
			}
		}
		b = append(b, plainBits(r.Vars[n])...)
		b = append(b, plainBits(news)...)
	}
	return b
}

func TestAnyResults(t *testing.T) {
	r := rand.New(rand.NewSource(2))
	for range 5000 {
		p := anyProgram(r)
		one, two := anyResult(r, p), anyResult(r, p)
		resultIs(t, "any result", p, one, plain(p, one))
		b, _ := sums.EncodeResult(p, one)
		c, _ := sums.EncodeResult(p, two)
		if alikeResults(one, two) != slices.Equal(b, c) {
			t.Fatalf("P9.6: two results of one program with one text of bytes")
		}
		var fs []api.Func
		want := []byte{}
		for i, f := range p.Funcs {
			fs = append(fs, api.Func{Params: f.Params, Results: f.Results})
			for _, place := range places(one.Sums[i]) {
				want = append(want, byte(*place))
			}
		}
		are(t, "any summaries", fs, one.Sums, want)
	}
}

// What is decoded is encoded to the same bytes, and nothing else is decoded, whatever the bytes are.
func TestAnyBytes(t *testing.T) {
	r := rand.New(rand.NewSource(3))
	right := 0
	for range 50000 {
		p := anyProgram(r)
		b := plain(p, anyResult(r, p))
		for range 1 + r.Intn(3) {
			at := r.Intn(len(b))
			switch r.Intn(8) {
			case 0:
				b = slices.Insert(b, at, byte(r.Intn(12)))
			case 1:
				b = slices.Delete(b, at, at+1)
			case 2:
				b = b[:at+1]
			default:
				b[at] ^= 1 << r.Intn(8)
			}
			if len(b) == 0 {
				break
			}
		}
		got, e := sums.DecodeResult(p, b)
		if e != api.OK {
			if e != api.ErrSummary || !isNone(got) {
				t.Fatalf("P9.7: error %d with a result", e)
			}
			continue
		}
		right++
		if again, f := sums.EncodeResult(p, got); f != api.OK || !slices.Equal(again, b) {
			t.Fatalf("P9.7: bytes are decoded to what is not encoded to them")
		}
	}
	if right < 1000 {
		t.Errorf("only %d of the bytes were a result", right)
	}
}

// allResults: every result of a program of one function without parameters, of so many variables and News.
func allResults(p api.Program, vars, news int) []api.Result {
	var l []api.Result
	for bits := range 1 << (vars + news) {
		r := lies(p)
		for i := range vars {
			r.Vars[0][i] = bits>>i&1 == 1
		}
		for i := range news {
			r.Code[0][i] = bits>>(vars+i)&1 == 1
		}
		l = append(l, r)
	}
	return l
}

// Of a small program: the bytes of all its results, and all bytes that begin like them: just as many are decoded.
func TestAllResults(t *testing.T) {
	const vars, news = 3, 2
	p := withBoth(vars, news)
	bytes := map[string]int{}
	for i, r := range allResults(p, vars, news) {
		b, e := sums.EncodeResult(p, r)
		if e != api.OK || bytes[string(b)] > 0 {
			t.Fatalf("P9.6: the result %d: error %d, or bytes of another one", i, e)
		}
		bytes[string(b)] = i + 1
	}
	begin := []byte{0x66, 0x67, 1, 1, 0, 0, 0, vars, news, 0}
	right := 0
	for n := range 1 << 16 {
		b := append(slices.Clone(begin), byte(n), byte(n>>8))
		r, e := sums.DecodeResult(p, b)
		if (e == api.OK) != (bytes[string(b)] > 0) {
			t.Fatalf("P9.7: % x: error %d", b, e)
		}
		if e == api.OK {
			right++
			resultIs(t, "a result of all", p, r, b)
		}
	}
	if right != 1<<(vars+news) {
		t.Errorf("P9.7: %d results", right)
	}
}
