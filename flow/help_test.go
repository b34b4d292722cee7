package flow_test

import (
	"math/rand"
	"slices"
	"testing"

	"fugue/api"
	"fugue/flow"
)

const none = api.None

func e(dst, src, derefs int) api.Edge { return api.Edge{Dst: dst, Src: src, Derefs: derefs} }

func list(edges ...api.Edge) []api.Edge { return edges }

func ret(args ...int) api.Instr { return api.Instr{Op: api.Return, Args: args} }

func call(n int, args, rets []int) api.Instr {
	return api.Instr{Op: api.Call, N: n, Args: args, Rets: rets}
}

// head: a function of that head whose code is right, and gives no edges.
func head(params, results, vars int) api.Func {
	return api.Func{Params: params, Results: results, Vars: vars, Code: []api.Instr{{Op: api.Jump}}}
}

func with(f api.Func, code ...api.Instr) api.Func {
	f.Code = code
	return f
}

func program(globals int, funcs ...api.Func) api.Program {
	return api.Program{Globals: globals, Funcs: funcs}
}

// every: the summary of a function with that number everywhere.
func every(f api.Func, d int) api.Summary {
	s := api.Summary{}
	for range f.Params {
		s.Heap = append(s.Heap, d)
		s.Result = append(s.Result, slices.Repeat([]int{d}, f.Results))
	}
	return s
}

func lowest(p api.Program) []api.Summary {
	var sums []api.Summary
	for _, f := range p.Funcs {
		sums = append(sums, every(f, none))
	}
	return sums
}

func gives(t *testing.T, what string, p api.Program, f int, sums []api.Summary, want ...api.Edge) {
	t.Helper()
	if got, err := flow.Edges(p, f, sums); err != api.OK || !slices.Equal(got, want) {
		t.Errorf("P7.2: %s: %v, error %d, want %v", what, got, err, want)
	}
}

func refused(t *testing.T, what string, p api.Program, f int, sums []api.Summary) {
	t.Helper()
	if got, err := flow.Edges(p, f, sums); err != api.ErrArg || len(got) != 0 {
		t.Errorf("P7.2: %s: %v, error %d, want ErrArg alone", what, got, err)
	}
}

func passes(t *testing.T, what string, p api.Program, f int, sums []api.Summary) {
	t.Helper()
	if _, err := flow.Edges(p, f, sums); err != api.OK {
		t.Errorf("P7.2: %s: error %d, want OK", what, err)
	}
}

// some: so many of the numbers below n.
func some(r *rand.Rand, many, n int) []int {
	var l []int
	for range many {
		l = append(l, r.Intn(n))
	}
	return l
}

// anyHead: one that may be, with a variable at least.
func anyHead(r *rand.Rand) api.Func {
	vars := 1 + r.Intn(5)
	return api.Func{Params: r.Intn(min(vars, 3) + 1), Results: r.Intn(4), Vars: vars}
}

// anyInstr: one that may stand in a function of the program, whose heads are there.
func anyInstr(r *rand.Rand, p api.Program, f api.Func, length int) api.Instr {
	v := func() int { return r.Intn(f.Vars) }
	op := 1 + r.Intn(17)
	switch op {
	case api.Int:
		return api.Instr{Op: op, R: v(), N: r.Int() - r.Int()}
	case api.Copy, api.Addr:
		return api.Instr{Op: op, R: v(), S: v()}
	case api.Add, api.Less, api.Same:
		return api.Instr{Op: op, R: v(), S: v(), T: v()}
	case api.New:
		return api.Instr{Op: op, R: v(), N: 1 + r.Intn(api.MaxFields)}
	case api.Load, api.Store:
		return api.Instr{Op: op, R: v(), S: v(), N: r.Intn(api.MaxFields)}
	case api.Get:
		return api.Instr{Op: op, R: v(), N: r.Intn(p.Globals)}
	case api.Set:
		return api.Instr{Op: op, S: v(), N: r.Intn(p.Globals)}
	case api.Call:
		n := r.Intn(len(p.Funcs))
		g := p.Funcs[n]
		return call(n, some(r, g.Params, f.Vars), some(r, g.Results, f.Vars))
	case api.Print:
		return api.Instr{Op: op, S: v()}
	case api.Jump:
		return api.Instr{Op: op, N: r.Intn(length)}
	case api.If:
		return api.Instr{Op: op, S: v(), N: r.Intn(length)}
	case api.Return:
		return ret(some(r, f.Results, f.Vars)...)
	}
	return api.Instr{Op: op, R: v()}
}

func anyProgram(r *rand.Rand) api.Program {
	p := api.Program{Globals: 1 + r.Intn(api.MaxGlobals)}
	for range 1 + r.Intn(4) {
		p.Funcs = append(p.Funcs, anyHead(r))
	}
	for i, f := range p.Funcs {
		length := 1 + r.Intn(12)
		for range length - 1 {
			p.Funcs[i].Code = append(p.Funcs[i].Code, anyInstr(r, p, f, length))
		}
		p.Funcs[i].Code = append(p.Funcs[i].Code, ret(some(r, f.Results, f.Vars)...))
	}
	return p
}

func anyDerefs(r *rand.Rand) int {
	if d := r.Intn(api.MaxDeref + 3); d <= api.MaxDeref {
		return d
	}
	return none
}

func anySums(r *rand.Rand, p api.Program) []api.Summary {
	sums := lowest(p)
	for _, s := range sums {
		for i := range s.Heap {
			s.Heap[i] = anyDerefs(r)
			for j := range s.Result[i] {
				s.Result[i][j] = anyDerefs(r)
			}
		}
	}
	return sums
}
