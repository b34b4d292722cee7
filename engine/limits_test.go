package engine_test

import (
	"runtime/debug"
	"slices"
	"testing"

	"fugue/api"
	"fugue/engine"
)

// long: so many functions, each of which hands its parameter on by that step; the one at the base lays it into a global, and in a chain calls nobody.
func long(many, step, base int, ring bool) api.Program {
	p := api.Program{Globals: 1, Funcs: make([]api.Func, many)}
	for n := range many {
		code := []api.Instr{call((n+step+many)%many, []int{0}, []int{1}), ret(1)}
		if n == base {
			code = append(code[:1:1], api.Instr{Op: api.Set}, ret(1))
			if !ring {
				code = code[1:]
			}
		}
		p.Funcs[n] = api.Func{Params: 1, Results: 1, Vars: 2, Code: code}
	}
	return p
}

// allHandOn: the bytes of a result in which each parameter flows to the heap, and none to a result.
func allHandOn(many int) []byte {
	b := []byte{0x66, 0x67, 1, byte(many), byte(many >> 8)}
	for range many {
		b = append(b, 1, 1, 2, 0, 0, 0, api.None, 0)
	}
	return b
}

// Chains and rings as long as there may be, callees ahead of callers and behind them, in a stack too small for a call each.
func TestLongOnes(t *testing.T) {
	defer debug.SetMaxStack(debug.SetMaxStack(1 << 20))
	const many = api.MaxFuncs
	want := allHandOn(many)
	for i, p := range []api.Program{long(many, 1, many-1, false), long(many, -1, 0, false), long(many, -1, 30000, true), long(many, 1, many-1, true)} {
		b := encoded(t, p)
		for _, workers := range []int{1, 64} {
			if l, e, at := engine.Free(b, workers); e != api.OK || at != 0 || !slices.Equal(l, want) {
				t.Fatalf("P15.2: a long one, %d workers: error %d at %d", workers, e, at)
			}
		}
		if i == 3 { // too many rounds to be told
			continue
		}
		for _, workers := range []int{1, 3} {
			if r := engine.Analyze(b, workers, edges...); r.Err != api.OK || r.Steps < 3*many || !slices.Equal(r.Bytes, want) {
				t.Fatalf("P15.1: a long one, %d workers: error %d at %d, %d steps", workers, r.Err, r.Offset, r.Steps)
			}
		}
		refused(t, "a long one that is cut", b[:len(b)-1], 64, api.ErrShort, len(b)-1)
		refused(t, "a long one with more behind", append(slices.Clone(b), b...), 64, api.ErrTrail, len(b))
	}
}

// As many functions as may be that call nobody: a Pop, a Pass, a Publish and a Finish each.
func TestManyLeaves(t *testing.T) {
	const many = api.MaxFuncs
	p := api.Program{Funcs: make([]api.Func, many)}
	want := []byte{0x66, 0x67, 1, 0xff, 0xff}
	for n := range many {
		p.Funcs[n].Code = []api.Instr{ret()}
		want = append(want, 0, 0, 0, 0, 0)
	}
	b := encoded(t, p)
	if r := engine.Analyze(b, 1, 5, -5); r.Err != api.OK || r.Steps != 4*many+1 || !slices.Equal(r.Bytes, want) {
		t.Errorf("P15.1: many leaves: error %d at %d, %d steps", r.Err, r.Offset, r.Steps)
	}
	analyzed(t, "many leaves", b, 5, nil, want)
	analyzed(t, "many leaves", b, 64, edges, want)
}

// A ring in which each round mends one function alone: all rounds are counted.
func TestManyRounds(t *testing.T) {
	const many = 400
	b := encoded(t, long(many, 1, many-1, true))
	r := engine.Analyze(b, 1)
	if r.Err != api.OK || r.Steps != many*(many+1)+4 || !slices.Equal(r.Bytes, allHandOn(many)) {
		t.Errorf("P15.1: many rounds: error %d at %d, %d steps", r.Err, r.Offset, r.Steps)
	}
}

// As many locations as there may be: variables and News, each other one on the heap; with one more it is too large.
func TestManyLocations(t *testing.T) {
	const vars, news = 255, 3840
	var f api.Func
	f.Vars = vars
	for n := range news {
		f.Code = append(f.Code, api.Instr{Op: api.New, R: n % 2, N: 1})
	}
	f.Code = append(f.Code, api.Instr{Op: api.Set, S: 1}, ret())
	p := api.Program{Globals: 1}
	for range 256 { // 256 times 4095 locations, and 255 more below, and 1
		p.Funcs = append(p.Funcs, f)
	}
	p.Funcs = append(p.Funcs, api.Func{Vars: vars, Code: []api.Instr{{Op: api.Addr, R: 1, S: 254}, {Op: api.Set, S: 1}, ret()}})
	want := []byte{0x66, 0x67, 1, 1, 1}
	for range 256 {
		want = append(append(want, 0, 0, vars, news%256, news/256), make([]byte, 32)...)
		want = append(want, slices.Repeat([]byte{0xaa}, news/8)...)
	}
	want = append(append(want, 0, 0, vars, 0, 0), make([]byte, 31)...)
	want = append(want, 0x40)
	b := encoded(t, p)
	for _, workers := range []int{1, 64} {
		analyzed(t, "many locations", b, workers, nil, want)
	}
	larger := slices.Clone(b)
	larger[len(larger)-8] = api.New // in the place of the Addr; its N is 254
	refused(t, "one location too many", larger, 3, api.ErrTooLarge, len(larger)-8)
}

// One that calls as many others as its code has room for.
func TestManyCallees(t *testing.T) {
	const many = api.MaxCode - 1
	p := api.Program{Globals: 1, Funcs: []api.Func{{Params: 1, Results: 1, Vars: 2}}}
	for n := range many {
		p.Funcs[0].Code = append(p.Funcs[0].Code, call(many-n, []int{0}, []int{1}))
		p.Funcs = append(p.Funcs, api.Func{Params: 1, Results: 1, Vars: 1, Code: []api.Instr{{Op: api.Set}, ret(0)}})
	}
	p.Funcs[0].Code = append(p.Funcs[0].Code, ret(1))
	want := []byte{0x66, 0x67, 1, 0x00, 0x10, 1, 1, 2, 0, 0, 0, 0, 0}
	for range many {
		want = append(want, 1, 1, 1, 0, 0, 0, 0, 0)
	}
	for _, workers := range []int{1, 2, 64} {
		analyzed(t, "many callees", encoded(t, p), workers, edges, want)
	}
}

// A script much longer than the run is read as far as it is needed.
func TestLongScript(t *testing.T) {
	b := bytesOf(t, leastBytes)
	for _, workers := range []int{1, 64} {
		if r := engine.Analyze(b, workers, make([]int, 1<<22)...); r.Err != api.OK || r.Steps != 4+workers {
			t.Errorf("P15.1: a long script, %d workers: error %d, %d steps", workers, r.Err, r.Steps)
		}
	}
}
