package engine_test

import (
	"encoding/hex"
	"fmt"
	"math"
	"math/rand"
	"slices"
	"strings"
	"sync"
	"testing"
	"time"

	"fugue/api"
	"fugue/code"
	"fugue/engine"
	"fugue/text"
	"fugue/whole"
)

// edges: numbers of a script at the ends of the numbers and about few workers' number.
var edges = []int{math.MinInt, math.MinInt + 1, math.MinInt + 2, math.MinInt + 5, -1 << 32, -1<<32 + 1, -13, -7, -6, -5, -4, -3, -2, -1, 0, 1, 2, 3, 4, 5, 6, 7, 12, 1 << 32, 1<<32 + 1, math.MaxInt - 3, math.MaxInt - 1, math.MaxInt}

// crews: numbers of workers.
var crews = []int{1, 2, 3, 4, 5, 7, 8, 13, 63, 64}

// noCrews: numbers of workers that may not be.
var noCrews = []int{math.MinInt, math.MinInt + 1, -1 << 32, -1<<32 + 1, -65, -64, -2, -1, 0, 65, 66, 128, 256 + 1, 1 << 32, 1<<32 + 1, math.MaxInt - 1, math.MaxInt}

// anyScript: small numbers for the most part, now and then one of the edges.
func anyScript(r *rand.Rand, most int) []int {
	l := make([]int, r.Intn(most+1))
	for i := range l {
		l[i] = r.Intn(21) - 8
		if r.Intn(6) == 0 {
			l[i] = edges[r.Intn(len(edges))]
		}
	}
	return l
}

// times: so many of the same number.
func times(many, k int) []int { return slices.Repeat([]int{k}, many) }

// scripts: empty, short and long ones, with numbers below 0 and at the ends of the numbers.
func scripts() [][]int {
	return [][]int{nil, {}, {0}, {1}, {-1}, {math.MinInt}, {math.MaxInt}, {2, 1, 0}, {-3, 5, -7, 11}, edges, times(500, 0), times(500, -1), times(300, 7), slices.Repeat(edges, 40)}
}

// fn: a function as text, its lines parted by semicolons.
func fn(params, results, vars int, lines string) string {
	return fmt.Sprintf("func params %d results %d vars %d\n", params, results, vars) + strings.ReplaceAll(lines, ";", "\n") + "\n"
}

// of: the program of these functions, with two globals.
func of(t *testing.T, funcs ...string) api.Program {
	t.Helper()
	lines := "globals 2\n" + strings.Join(funcs, "")
	p, e, line := text.Parse(lines)
	if e != api.OK {
		t.Fatalf("no program: error %d at line %d of\n%s", e, line, lines)
	}
	return p
}

func encoded(t *testing.T, p api.Program) []byte {
	t.Helper()
	b, e := code.Encode(p)
	if e != api.OK {
		t.Fatalf("no program: error %d", e)
	}
	return b
}

// bytesOf: bytes as pairs of digits, with blanks and commas as one likes.
func bytesOf(t *testing.T, s string) []byte {
	t.Helper()
	b, err := hex.DecodeString(strings.NewReplacer(" ", "", ",", "").Replace(s))
	if err != nil {
		t.Fatalf("no bytes: %q", s)
	}
	return b
}

func least(t *testing.T, p api.Program) api.Result {
	t.Helper()
	r, e := whole.Solve(p)
	if e != api.OK {
		t.Fatalf("no program: error %d", e)
	}
	return r
}

func alikeSum(a, b api.Summary) bool {
	return slices.Equal(a.Heap, b.Heap) && slices.EqualFunc(a.Result, b.Result, slices.Equal)
}

func alike(a, b api.Result) bool {
	return slices.EqualFunc(a.Sums, b.Sums, alikeSum) && slices.EqualFunc(a.Vars, b.Vars, slices.Equal) && slices.EqualFunc(a.Code, b.Code, slices.Equal)
}

// refused: by Analyze, with any of some scripts, and by Free: that error and offset alone.
func refused(t *testing.T, what string, b []byte, workers int, want api.Errno, at int) {
	t.Helper()
	for _, script := range [][]int{nil, {1, -2, 3}, edges} {
		if r := engine.Analyze(b, workers, script...); r.Err != want || r.Offset != at || len(r.Bytes) > 0 || r.Steps != 0 {
			t.Errorf("P15.1: %s, %d workers: Analyze of % x: %+v, want the error %d at %d alone", what, workers, b, r, want, at)
		}
	}
	if l, e, offset := engine.Free(b, workers); e != want || offset != at || len(l) > 0 {
		t.Errorf("P15.2: %s, %d workers: Free of % x: % x, error %d at %d, want the error %d at %d alone", what, workers, b, l, e, offset, want, at)
	}
}

// analyzed: these are the bytes, with that script and workers, and free.
func analyzed(t *testing.T, what string, b []byte, workers int, script []int, want []byte) {
	t.Helper()
	if r := engine.Analyze(b, workers, script...); r.Err != api.OK || r.Offset != 0 || !slices.Equal(r.Bytes, want) || r.Steps < 1 {
		t.Fatalf("P15.1: %s, %d workers, script %v: error %d at %d, %d steps, bytes\n% x\nwant\n% x", what, workers, script, r.Err, r.Offset, r.Steps, r.Bytes, want)
	}
	if l, e, at := engine.Free(b, workers); e != api.OK || at != 0 || !slices.Equal(l, want) {
		t.Fatalf("P15.2: %s, %d workers, free: error %d at %d, bytes\n% x\nwant\n% x", what, workers, e, at, l, want)
	}
}

// within: it must end.
func within(t *testing.T, do func()) {
	t.Helper()
	over := make(chan bool)
	go func() {
		defer close(over)
		do()
	}()
	select {
	case <-over:
	case <-time.After(4 * time.Minute):
		t.Fatal("R1: it waits for ever")
	}
}

// together: so many goroutines, begun at one time; all must end.
func together(t *testing.T, many int, do func(g int)) {
	t.Helper()
	within(t, func() {
		var all sync.WaitGroup
		start := make(chan bool)
		for g := range many {
			all.Go(func() {
				<-start
				do(g)
			})
		}
		close(start)
		all.Wait()
	})
}

// some: so many of the numbers below n.
func some(r *rand.Rand, many, n int) []int {
	var l []int
	for range many {
		l = append(l, r.Intn(n))
	}
	return l
}

func ret(args ...int) api.Instr { return api.Instr{Op: api.Return, Args: args} }

func call(n int, args, rets []int) api.Instr {
	return api.Instr{Op: api.Call, N: n, Args: args, Rets: rets}
}

// anyInstr: any operation, those with edges more often, as it may stand in a function of the program, whose heads are there; it calls those that a function names.
func anyInstr(r *rand.Rand, p api.Program, f api.Func, length int, callee func() int) api.Instr {
	v := func() int { return r.Intn(f.Vars) }
	ops := []int{api.Copy, api.Copy, api.Addr, api.Addr, api.New, api.New, api.Load, api.Load, api.Store, api.Set, api.Call, api.Call, api.Call, api.Return, api.If, api.Jump, api.Add, api.Less, api.Same, api.Get, api.Int, api.Null, api.Print}
	op := ops[r.Intn(len(ops))]
	switch op {
	case api.Copy, api.Addr:
		return api.Instr{Op: op, R: v(), S: v()}
	case api.New:
		return api.Instr{Op: op, R: v(), N: 1 + r.Intn(api.MaxFields)}
	case api.Load, api.Store:
		return api.Instr{Op: op, R: v(), S: v(), N: r.Intn(api.MaxFields)}
	case api.Set:
		return api.Instr{Op: op, S: v(), N: r.Intn(p.Globals)}
	case api.Get:
		return api.Instr{Op: op, R: v(), N: r.Intn(p.Globals)}
	case api.Call:
		n := callee()
		g := p.Funcs[n]
		return call(n, some(r, g.Params, f.Vars), some(r, g.Results, f.Vars))
	case api.If:
		return api.Instr{Op: op, S: v(), N: r.Intn(length)}
	case api.Jump:
		return api.Instr{Op: op, N: r.Intn(length)}
	case api.Add, api.Less, api.Same:
		return api.Instr{Op: op, R: v(), S: v(), T: v()}
	case api.Int:
		return api.Instr{Op: op, R: v(), N: edges[r.Intn(len(edges))]}
	case api.Null:
		return api.Instr{Op: op, R: v()}
	case api.Print:
		return api.Instr{Op: op, S: v()}
	}
	return ret(some(r, f.Results, f.Vars)...)
}

// anyProgram: of at most so many functions, each with at most so much code. Who calls whom: anybody; those above alone, so that no ring is there; or those near by, so that there are small rings.
func anyProgram(r *rand.Rand, funcs, code int) api.Program {
	p := api.Program{Globals: 1 + r.Intn(api.MaxGlobals)}
	n := 1 + r.Intn(funcs)
	for range n {
		vars := 1 + r.Intn(3+r.Intn(2)*8)
		p.Funcs = append(p.Funcs, api.Func{Params: r.Intn(min(vars, 3) + 1), Results: r.Intn(3), Vars: vars})
	}
	as, way := r.Perm(n), r.Intn(3)
	for i, f := range p.Funcs {
		callee := func() int {
			switch way {
			case 0:
				return r.Intn(n)
			case 1:
				return as[min(n-1, slices.Index(as, i)+r.Intn(3))]
			}
			return as[min(n-1, slices.Index(as, i)/3*3+r.Intn(5))]
		}
		length := 1 + r.Intn(code)
		for range length - 1 {
			p.Funcs[i].Code = append(p.Funcs[i].Code, anyInstr(r, p, f, length, callee))
		}
		p.Funcs[i].Code = append(p.Funcs[i].Code, ret(some(r, f.Results, f.Vars)...))
	}
	return p
}

// shapes: programs of many functions in which workers wait for one another in other ways: all of them hand a parameter on, some lay it or an address into a global, some give an address back.
func shapes() []api.Program {
	var l []api.Program
	for _, callees := range []func(f, n int) []int{
		func(f, n int) []int { return nil },                            // leaves
		func(f, n int) []int { return []int{f + 1} },                   // a chain
		func(f, n int) []int { return []int{f - 1} },                   // one the other way
		func(f, n int) []int { return []int{2*f + 1, 2*f + 2} },        // a tree
		func(f, n int) []int { return []int{(f - 1) / 2 * min(f, 1)} }, // one whose root is called
		func(f, n int) []int { return []int{n - 1} },                   // all wait for one
		func(f, n int) []int { return []int{f + 1, f + 2, f + 7} },     // many ways
		func(f, n int) []int { return []int{f/8*8 + (f+1)%8, f + 8} },  // rings in a chain
		func(f, n int) []int { return []int{(f + 1) % n} },             // one ring
		func(f, n int) []int { return []int{(f + n - 1) % n} },         // one the other way
	} {
		const n = 50
		p := api.Program{Globals: 1}
		for f := range n {
			x := api.Func{Params: 1, Results: 1, Vars: 4}
			for _, g := range callees(f, n) {
				if g >= 0 && g < n && (g != f || f == n-1) {
					x.Code = append(x.Code, api.Instr{Op: api.Load, R: 1}, call(g, []int{f % 2}, []int{2}))
				}
			}
			if f%7 == 3 {
				x.Code = append(x.Code, api.Instr{Op: api.Set, S: f % 3})
			}
			if f%5 == 1 {
				x.Code = append(x.Code, api.Instr{Op: api.Addr, R: f / 5 % 3, S: 3}, api.Instr{Op: api.New, R: 3, N: 1})
			}
			x.Code = append(x.Code, ret(f%2*2))
			p.Funcs = append(p.Funcs, x)
		}
		l = append(l, p)
	}
	return l
}
