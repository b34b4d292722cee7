package sums_test

import (
	"runtime/debug"
	"slices"
	"testing"

	"fugue/api"
	"fugue/sums"
)

// The greatest shape, and as many functions of it as there may be and more: Encode and Decode know no greatest number of functions.
func TestManySummaries(t *testing.T) {
	defer debug.SetMaxStack(debug.SetMaxStack(1 << 20))
	f := api.Func{Params: api.MaxParams, Results: api.MaxResults}
	for _, many := range []int{1, 255, 256, 257, api.MaxFuncs, api.MaxFuncs + 2} {
		fs := slices.Repeat([]api.Func{f}, many)
		l := slices.Repeat([]api.Summary{every(f, 3)}, many)
		b := slices.Repeat([]byte{3}, 40*many)
		l[many-1] = every(f, none)
		for i := range 40 {
			b[40*(many-1)+i] = none
		}
		if got, e := sums.Encode(fs, l); e != api.OK || !slices.Equal(got, b) {
			t.Errorf("P9.4: %d functions: error %d", many, e)
		}
		if got, e := sums.Decode(fs, b); e != api.OK || !slices.EqualFunc(got, l, alike) {
			t.Errorf("P9.5: %d functions: error %d", many, e)
		}
		b[len(b)-1] = 4
		if got, e := sums.Decode(fs, b); e != api.ErrSummary || len(got) > 0 {
			t.Errorf("P9.5: %d functions, the last byte a 4: error %d", many, e)
		}
		if got, e := sums.Decode(fs, b[:len(b)-1]); e != api.ErrSummary || len(got) > 0 {
			t.Errorf("P9.5: %d functions, a byte too few: error %d", many, e)
		}
		l[many-1].Result[7][3] = 4
		if got, e := sums.Encode(fs, l); e != api.ErrSummary || len(got) > 0 {
			t.Errorf("P9.4: %d functions, the last number a 4: error %d", many, e)
		}
		fs[many-1].Results = 5
		if got, e := sums.Encode(fs, l); e != api.ErrArg || len(got) > 0 {
			t.Errorf("P9.4: %d functions, the last one's shape: error %d", many, e)
		}
		if got, e := sums.Decode(fs, b); e != api.ErrArg || len(got) > 0 {
			t.Errorf("P9.5: %d functions, the last one's shape: error %d", many, e)
		}
	}
}

// As many variables and News as a function may have.
func TestTheGreatestFunction(t *testing.T) {
	var c []api.Instr
	for i := range api.MaxCode - 1 {
		c = append(c, makes(i))
	}
	p := api.Program{Funcs: []api.Func{{Params: 8, Results: 4, Vars: 255, Code: append(c, ret(0, 1, 2, 3))}}}
	r := lies(p)
	head := []byte{0x66, 0x67, 1, 1, 0, 8, 4, 255, 0xff, 0x0f}
	b := append(head, slices.Repeat([]byte{9}, 40)...)
	resultIs(t, "in the frame", p, r, append(slices.Clone(b), make([]byte, 32+512)...))
	for i := range r.Vars[0] {
		r.Vars[0][i] = true
	}
	for i := range api.MaxCode - 1 {
		r.Code[0][i] = true
	}
	full := slices.Repeat([]byte{255}, 32+512)
	full[31], full[32+511] = 127, 127
	resultIs(t, "on the heap", p, r, append(slices.Clone(b), full...))
	full[31] = 255
	resultNotDecoded(t, "a variable that is none", p, append(slices.Clone(b), full...), api.ErrSummary)
	full[31], full[32+511] = 127, 255
	resultNotDecoded(t, "a New that is none", p, append(slices.Clone(b), full...), api.ErrSummary)
	r.Code[0][api.MaxCode-1] = true
	resultNotEncoded(t, "the Return", p, r, api.ErrSummary)
}

// As many functions as there may be, in a chain, some of them around where their number's second byte begins.
func TestManyFunctions(t *testing.T) {
	defer debug.SetMaxStack(debug.SetMaxStack(1 << 20))
	for _, many := range []int{255, 256, 257, api.MaxFuncs} {
		p := api.Program{}
		b := []byte{0x66, 0x67, 1, byte(many), byte(many >> 8)}
		for n := range many {
			next := api.Instr{Op: api.Call, N: (n + 1) % many, Args: []int{0}}
			p.Funcs = append(p.Funcs, api.Func{Params: 1, Vars: 2, Code: []api.Instr{makes(n), next, ret()}})
			b = append(b, 1, 0, 2, 1, 0, byte(n%4), byte(n%4), byte(n%2))
		}
		r := lies(p)
		for n := range many {
			r.Sums[n].Heap[0] = n % 4
			r.Vars[n][0], r.Vars[n][1] = n%2 == 1, n%4 > 1
			r.Code[n][0] = n%2 == 1
		}
		resultIs(t, "many functions", p, r, b)
		b[len(b)-1] = 2
		resultNotDecoded(t, "the last bit of no New", p, b, api.ErrSummary)
	}
}

// As many locations as there may be, and one more.
func TestManyLocations(t *testing.T) {
	p := api.Program{}
	for range 4112 {
		p.Funcs = append(p.Funcs, api.Func{Vars: 255, Code: []api.Instr{ret()}})
	}
	p.Funcs = append(p.Funcs, api.Func{Vars: 1, Code: []api.Instr{}})
	for i := range 14 {
		p.Funcs[4112].Code = append(p.Funcs[4112].Code, makes(i))
	}
	p.Funcs[4112].Code = append(p.Funcs[4112].Code, ret())
	r := lies(p)
	r.Code[4112][13] = true
	b := plain(p, r)
	resultIs(t, "as many locations as may be", p, r, b)
	p.Funcs[4112].Code = append([]api.Instr{makes(0)}, p.Funcs[4112].Code...)
	resultNotEncoded(t, "one more", p, lies(p), api.ErrTooLarge)
	resultNotDecoded(t, "one more", p, b, api.ErrTooLarge)
}

// A few bytes of a program with much code, all of its functions with the same list: refused without much being made.
func TestFewBytesOfMuch(t *testing.T) {
	var c []api.Instr
	for range 1000 {
		c = append(c, api.Instr{Op: api.Null})
	}
	f := api.Func{Vars: 1, Code: append(c, ret())}
	p := api.Program{Funcs: slices.Repeat([]api.Func{f}, 5000)}
	b := []byte{0x66, 0x67, 1, 0x88, 0x13, 0, 0, 1, 0, 0, 0, 0, 0, 1, 0, 0, 0}
	made := testing.AllocsPerRun(1, func() { resultNotDecoded(t, "few bytes", p, b, api.ErrSummary) })
	if made > 1000 {
		t.Errorf("P9.7: %v things are made of a few bytes", made)
	}
	fs := slices.Repeat([]api.Func{{Params: 8, Results: 4}}, 100000)
	made = testing.AllocsPerRun(1, func() { notDecoded(t, "few bytes", fs, make([]byte, 41), api.ErrSummary) })
	if made > 1000 {
		t.Errorf("P9.5: %v things are made of a few bytes", made)
	}
}
