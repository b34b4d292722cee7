package cache_test

import (
	"bytes"
	"math/bits"
	"runtime/debug"
	"slices"
	"testing"

	"fugue/api"
	"fugue/cache"
	"fugue/code"
)

// long: as many functions as there may be, each of which hands its parameter on by that step; the one at the base lays it into a global, and in a chain calls nobody. If they are marked each has a number in its code.
func long(step, base int, ring, marked bool) api.Program {
	const many = api.MaxFuncs
	p := api.Program{Globals: 1, Funcs: make([]api.Func, many)}
	for n := range many {
		c := []api.Instr{{Op: api.Int, R: 2}, call((n+step+many)%many, []int{0}, []int{1}), ret(1)}
		if marked {
			c[0].N = n
		}
		if n == base {
			c = []api.Instr{c[0], {Op: api.Set}, c[1], ret(1)}
			if !ring {
				c = []api.Instr{c[0], c[1], ret(0)}
			}
		}
		p.Funcs[n] = api.Func{Params: 1, Results: 1, Vars: 3, Code: c}
	}
	return p
}

// entries: a cache has so many.
func entries(t *testing.T, what string, c *cache.Cache, want int) {
	t.Helper()
	if l := items(t, c); len(l) != want {
		t.Errorf("P21.1: %s: %d entries, want %d", what, len(l), want)
	}
}

// Chains as long as there may be, callees ahead of callers and behind them, in a stack too small for a call each. Where all are alike two closed programs are enough; else each has its own.
func TestLongChains(t *testing.T) {
	defer debug.SetMaxStack(debug.SetMaxStack(1 << 20))
	const last = api.MaxFuncs - 1
	alike, marked := cache.New(), cache.New()
	for i, x := range []struct{ step, base int }{{1, last}, {-1, 0}} {
		p := long(x.step, x.base, false, false)
		solves(t, "a chain of functions that are alike", alike, p, 4*(1-i))
		p = long(x.step, x.base, false, true)
		changed := api.MaxFuncs
		if i == 1 {
			changed = 2 // the two ends have become each other
		}
		solves(t, "a chain", marked, p, 2*changed)
	}
	entries(t, "a chain of functions that are alike", alike, 2)
	entries(t, "a chain", marked, api.MaxFuncs+2)
	solves(t, "a chain, loaded", loaded(t, marked.Bytes()), long(1, last, false, true), 0)
}

// Rings as long as there may be: one closed program.
func TestLongRings(t *testing.T) {
	defer debug.SetMaxStack(debug.SetMaxStack(1 << 20))
	const last = api.MaxFuncs - 1
	for _, x := range []struct{ step, base, rounds int }{{1, last, api.MaxFuncs + 1}, {-1, 0, 2}} {
		c := cache.New()
		p := long(x.step, x.base, true, true)
		solves(t, "a ring", c, p, x.rounds*api.MaxFuncs)
		solves(t, "a ring, again", c, p, 0)
		entries(t, "a ring", c, 1)
		l := items(t, c)
		if x.step > 0 { // the last pass of many is another one, or one number of many
			l[0].certificate = turned(l[0].certificate, len(l[0].certificate)-2, 1)
		} else {
			l[0].result = turned(l[0].result, 5+8*40000+5, 1) // behind the head of one of many
		}
		solves(t, "a ring, with a lie", loaded(t, bytesOf(l...)), p, x.rounds*api.MaxFuncs)
	}
}

// wide: a ring of functions without parameters and results that have so many variables in all; the first one of it may do more.
func wide(vars int, more ...api.Instr) []api.Func {
	l := many(vars)
	for n := range l {
		l[n].Code = []api.Instr{call((n+1)%len(l), nil, nil), ret()}
	}
	l[0].Code = append(more, l[0].Code...)
	return l
}

// With a stub a closed program may be larger than the program was: at MaxLocs it has a key; with a variable or a New more it has none, is never kept, and takes its passes each time.
func TestTooLarge(t *testing.T) {
	t.Parallel()
	args, rets := []int{0, 1, 2, 3, 4, 5, 6, 7}, []int{8, 9, 10, 11}
	const stub, room = 132, api.MaxLocs - 1
	make1 := func(vars, news int) (api.Program, int) {
		more := slices.Repeat([]api.Instr{{Op: api.New, N: 1}}, news)
		ring := wide(vars, append(more, call((vars+api.MaxVars-1)/api.MaxVars, args, rets))...)
		p := api.Program{Globals: 1, Funcs: append(ring, greatest(3))}
		if e := code.Check(p); e != api.OK {
			t.Fatalf("the test's program has the error %d", e)
		}
		return p, len(ring)
	}
	for _, x := range []struct {
		vars, news int
		keyed      bool
	}{{room - stub, 0, true}, {room - stub + 1, 0, false}, {room - stub - 5, 5, true}, {room - stub - 5, 6, false}, {room - 12, 0, false}} {
		p, members := make1(x.vars, x.news)
		c := cache.New()
		solves(t, "as large as may be", c, p, members+2)
		want, again := 2, 0
		if !x.keyed {
			want, again = 1, members
		}
		entries(t, "as large as may be", c, want)
		b := c.Bytes()
		solves(t, "as large as may be, again", c, p, again)
		solves(t, "as large as may be, loaded", loaded(t, b), p, again)
		if !x.keyed { // what has no key is not under the key without bytes
			nobody := item{"", items(t, c)[0].result, items(t, c)[0].certificate}
			d := loaded(t, bytesOf(append([]item{nobody}, items(t, c)...)...))
			solves(t, "beside an entry of nobody", d, p, again)
			if got := items(t, d); len(got) != 2 || got[0] != nobody {
				t.Errorf("P21.1: an entry of nobody has changed")
			}
		}
		if !bytes.Equal(c.Bytes(), b) {
			t.Errorf("P21.1: the cache has changed where nothing is learnt")
		}
	}
}

// compact: a function with as many parameters and results as may be and few variables, whose numbers are 3 or 2, as the bits say.
func compact(bits int) api.Func {
	f := api.Func{Params: api.MaxParams, Results: api.MaxResults, Vars: 4*api.MaxParams + api.MaxResults}
	result := 4 * api.MaxParams
	var flows []api.Instr
	for i := range api.MaxParams {
		v := i
		var behind []int
		for d := range 3 {
			next := api.MaxParams + 3*i + d
			f.Code = append(f.Code, api.Instr{Op: api.Load, R: next, S: v})
			behind = append(behind, next)
			v = next
		}
		for target := range 1 + api.MaxResults {
			from := behind[2-bits&1]
			bits >>= 1
			if target == 0 {
				flows = append(flows, api.Instr{Op: api.Set, S: from})
			} else {
				flows = append(flows, api.Instr{Op: api.Copy, R: result + target - 1, S: from})
			}
		}
	}
	f.Code = append(append(f.Code, flows...), ret(result, result+1, result+2, result+3))
	return f
}

// Many summaries that are all different, as many stubs: at MaxLocs there is a key, with a variable more there is none. The last stub takes no variable, and is there at the bound too.
func TestManyStubs(t *testing.T) {
	t.Parallel()
	args, rets := []int{0, 1, 2, 3, 4, 5, 6, 7}, []int{8, 9, 10, 11}
	const members, vars, per = 3, 12, 4000
	callees, room := 0, api.MaxLocs-1-members*vars
	for stub := 132; room >= stub; stub = 132 - bits.OnesCount(uint(callees)) {
		callees++
		room -= stub
	}
	for _, more := range []int{0, 1} {
		p := api.Program{Globals: 1}
		for m := range members {
			f := api.Func{Vars: vars, Code: []api.Instr{call((m+1)%members, nil, nil)}}
			for n := m * per; n < min((m+1)*per, callees); n++ {
				f.Code = append(f.Code, call(members+callees-1-n, args, rets))
			}
			p.Funcs = append(p.Funcs, f)
		}
		p.Funcs[0].Vars += room + more
		p.Funcs[members-1].Code = append(p.Funcs[members-1].Code, call(members+callees, nil, nil))
		for m := range members {
			p.Funcs[m].Code = append(p.Funcs[m].Code, ret())
		}
		for n := range callees {
			p.Funcs = append(p.Funcs, compact(n))
		}
		p.Funcs = append(p.Funcs, api.Func{Code: []api.Instr{ret()}})
		c := cache.New()
		solves(t, "many summaries", c, p, members+2*callees+1)
		entries(t, "many summaries", c, callees+2-more)
		solves(t, "many summaries, again", c, p, more*members)
		longest := slices.MaxFunc(items(t, c), func(a, b item) int { return len(a.key) - len(b.key) })
		if q := decoded(t, longest.key); more == 0 && (len(q.Funcs) != members+callees+1 || code.Locations(q) != api.MaxLocs) {
			t.Errorf("P21.1: %d functions and %d locations in the greatest closed program, want %d and MaxLocs", len(q.Funcs), code.Locations(q), members+callees+1)
		}
	}
}

// A function with as many parameters, results, variables and instructions as may be.
func TestLongCode(t *testing.T) {
	var c []api.Instr
	for v := range api.MaxVars - 1 {
		c = append(c, api.Instr{Op: api.Copy, R: v, S: v + 1})
	}
	for range api.MaxCode - len(c) - 2 {
		c = append(c, api.Instr{Op: api.New, R: 254, N: 8})
	}
	c = append(c, api.Instr{Op: api.Set}, ret(0, 1, 2, 3))
	f := api.Func{Params: 8, Results: 4, Vars: api.MaxVars, Code: c}
	caller := api.Func{Vars: 12, Code: append(slices.Repeat([]api.Instr{call(1, []int{0, 1, 2, 3, 4, 5, 6, 7}, []int{8, 9, 10, 11})}, api.MaxCode-1), ret())}
	p := api.Program{Globals: 1, Funcs: []api.Func{caller, f}}
	agreesOn(t, cache.New(), p)
	x := cache.New()
	solves(t, "long code", x, p, 3)
	solves(t, "long code, again", x, p, 0)
	entries(t, "long code", x, 2)
}

// As many functions as there may be, all alike, and all callers of one.
func TestMany(t *testing.T) {
	t.Parallel()
	one := api.Func{Params: 1, Results: 1, Vars: 2, Code: []api.Instr{ret(0)}}
	c := cache.New()
	solves(t, "all alike", c, api.Program{Funcs: slices.Repeat([]api.Func{one}, api.MaxFuncs)}, 2)
	entries(t, "all alike", c, 1)
	l := slices.Repeat([]api.Func{{Params: 1, Results: 1, Vars: 2, Code: []api.Instr{call(7, []int{0}, []int{1}), ret(1)}}}, api.MaxFuncs)
	l[7] = one
	solves(t, "all call one", c, api.Program{Funcs: l}, 2)
	entries(t, "all call one", c, 2)
	refuses(t, "one too many", c, api.Program{Funcs: append(l, one)}, api.ErrHead)
}
