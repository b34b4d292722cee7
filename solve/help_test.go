package solve_test

import (
	"fmt"
	"math/rand"
	"slices"
	"testing"

	"fugue/api"
	"fugue/calls"
	"fugue/solve"
	"fugue/text"
)

const none = api.None

func parse(t *testing.T, lines string) api.Program {
	t.Helper()
	p, e, line := text.Parse(lines)
	if e != api.OK {
		t.Fatalf("no program: error %d at line %d of\n%s", e, line, lines)
	}
	return p
}

// fn: a function as text, its lines parted by semicolons.
func fn(params, results, vars int, lines string) string {
	s := fmt.Sprintf("func params %d results %d vars %d\n", params, results, vars)
	for _, r := range lines {
		if r == ';' {
			r = '\n'
		}
		s += string(r)
	}
	return s + "\n"
}

// of: the program of these functions, with two globals.
func of(t *testing.T, funcs ...string) api.Program {
	t.Helper()
	s := "globals 2\n"
	for _, f := range funcs {
		s += f
	}
	return parse(t, s)
}

func graph(t *testing.T, p api.Program) *calls.Graph {
	t.Helper()
	g, e := calls.New(p)
	if e != api.OK {
		t.Fatalf("no graph: error %d", e)
	}
	return g
}

func sum(heap []int, result ...[]int) api.Summary { return api.Summary{Heap: heap, Result: result} }

// every: a summary with that number everywhere.
func every(f api.Func, d int) api.Summary {
	s := api.Summary{}
	for range f.Params {
		s.Heap = append(s.Heap, d)
		s.Result = append(s.Result, slices.Repeat([]int{d}, f.Results))
	}
	return s
}

func lowest(p api.Program) []api.Summary {
	var sums []api.Summary
	for _, f := range p.Funcs {
		sums = append(sums, every(f, none))
	}
	return sums
}

func alike(a, b api.Summary) bool {
	return slices.Equal(a.Heap, b.Heap) && slices.EqualFunc(a.Result, b.Result, slices.Equal)
}

// above: of two of one shape: does the first one say at least as much everywhere?
func above(a, b api.Summary) bool {
	for i := range a.Heap {
		if a.Heap[i] > b.Heap[i] {
			return false
		}
		for j := range a.Result[i] {
			if a.Result[i][j] > b.Result[i][j] {
				return false
			}
		}
	}
	return true
}

// out: the locations that escape.
func out(escapes []bool) []int {
	var l []int
	for i, x := range escapes {
		if x {
			l = append(l, i)
		}
	}
	return l
}

func solves(t *testing.T, what string, p api.Program, f int, sums []api.Summary, escape []int, want api.Summary) {
	t.Helper()
	escapes, s, e := solve.Function(p, f, sums)
	if e != api.OK || !slices.Equal(out(escapes), escape) || !alike(s, want) {
		t.Errorf("P8.1: %s: %v escape, %v, error %d, want %v, %v", what, out(escapes), s, e, escape, want)
	}
}

func refused(t *testing.T, what string, p api.Program, f int, sums []api.Summary) {
	t.Helper()
	if escapes, s, e := solve.Function(p, f, sums); e != api.ErrArg || len(escapes)+len(s.Heap)+len(s.Result) > 0 {
		t.Errorf("P8.1: %s: %v, %v, error %d, want ErrArg alone", what, escapes, s, e)
	}
}

func passes(t *testing.T, what string, p api.Program, f int, sums []api.Summary) {
	t.Helper()
	if _, _, e := solve.Function(p, f, sums); e != api.OK {
		t.Errorf("P8.1: %s: error %d, want OK", what, e)
	}
}

func comes(t *testing.T, what string, p api.Program, g *calls.Graph, c int, sums []api.Summary, asked int, want ...api.Summary) {
	t.Helper()
	l, n, e := solve.Component(p, g, c, sums)
	if e != api.OK || n != asked || !slices.EqualFunc(l, want, alike) {
		t.Errorf("P8.3: %s: %v, %d passes, error %d, want %v, %d passes", what, l, n, e, want, asked)
	}
}

func refusedRing(t *testing.T, what string, p api.Program, g *calls.Graph, c int, sums []api.Summary) {
	t.Helper()
	if l, n, e := solve.Component(p, g, c, sums); e != api.ErrArg || len(l) > 0 || n != 0 {
		t.Errorf("P8.3: %s: %v, %d passes, error %d, want ErrArg alone", what, l, n, e)
	}
}

// some: so many of the numbers below n.
func some(r *rand.Rand, many, n int) []int {
	var l []int
	for range many {
		l = append(l, r.Intn(n))
	}
	return l
}

func ret(args ...int) api.Instr { return api.Instr{Op: api.Return, Args: args} }

func call(n int, args, rets []int) api.Instr {
	return api.Instr{Op: api.Call, N: n, Args: args, Rets: rets}
}

// anyInstr: one that has edges, most often, and may stand in a function of the program, whose heads are there.
func anyInstr(r *rand.Rand, p api.Program, f api.Func, length int) api.Instr {
	v := func() int { return r.Intn(f.Vars) }
	ops := []int{api.Copy, api.Copy, api.Addr, api.Addr, api.New, api.Load, api.Load, api.Store, api.Set, api.Call, api.Call, api.Call, api.Return, api.If, api.Add, api.Get}
	op := ops[r.Intn(len(ops))]
	switch op {
	case api.Copy, api.Addr:
		return api.Instr{Op: op, R: v(), S: v()}
	case api.New:
		return api.Instr{Op: op, R: v(), N: 1 + r.Intn(api.MaxFields)}
	case api.Load, api.Store:
		return api.Instr{Op: op, R: v(), S: v(), N: r.Intn(api.MaxFields)}
	case api.Set:
		return api.Instr{Op: op, S: v(), N: r.Intn(p.Globals)}
	case api.Get:
		return api.Instr{Op: op, R: v(), N: r.Intn(p.Globals)}
	case api.Call:
		n := r.Intn(len(p.Funcs))
		g := p.Funcs[n]
		return call(n, some(r, g.Params, f.Vars), some(r, g.Results, f.Vars))
	case api.If:
		return api.Instr{Op: op, S: v(), N: r.Intn(length)}
	case api.Add:
		return api.Instr{Op: op, R: v(), S: v(), T: v()}
	}
	return ret(some(r, f.Results, f.Vars)...)
}

// anyProgram: of at most so many functions, each with at most so much code.
func anyProgram(r *rand.Rand, funcs, code int) api.Program {
	p := api.Program{Globals: 1 + r.Intn(api.MaxGlobals)}
	for range 1 + r.Intn(funcs) {
		vars := 1 + r.Intn(6)
		p.Funcs = append(p.Funcs, api.Func{Params: r.Intn(min(vars, 3) + 1), Results: r.Intn(3), Vars: vars})
	}
	for i, f := range p.Funcs {
		length := 1 + r.Intn(code)
		for range length - 1 {
			p.Funcs[i].Code = append(p.Funcs[i].Code, anyInstr(r, p, f, length))
		}
		p.Funcs[i].Code = append(p.Funcs[i].Code, ret(some(r, f.Results, f.Vars)...))
	}
	return p
}

// anySums: right ones; the less, the more of their numbers are None.
func anySums(r *rand.Rand, p api.Program) []api.Summary {
	sums := lowest(p)
	less := r.Intn(5)
	number := func() int {
		if d := r.Intn(api.MaxDeref + 1 + less); d <= api.MaxDeref {
			return d
		}
		return none
	}
	for _, s := range sums {
		for i := range s.Heap {
			s.Heap[i] = number()
			for j := range s.Result[i] {
				s.Result[i][j] = number()
			}
		}
	}
	return sums
}
