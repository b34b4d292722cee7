package whole_test

import (
	"fmt"
	"math/rand"
	"slices"
	"strings"
	"testing"

	"fugue/api"
	"fugue/text"
	"fugue/whole"
)

const none = api.None

func parse(t *testing.T, lines string) api.Program {
	t.Helper()
	p, e, line := text.Parse(lines)
	if e != api.OK {
		t.Fatalf("no program: error %d at line %d of\n%s", e, line, lines)
	}
	return p
}

// fn: a function as text, its lines parted by semicolons.
func fn(params, results, vars int, lines string) string {
	return fmt.Sprintf("func params %d results %d vars %d\n", params, results, vars) + strings.ReplaceAll(lines, ";", "\n") + "\n"
}

// of: the program of these functions, with two globals.
func of(t *testing.T, funcs ...string) api.Program {
	t.Helper()
	return parse(t, "globals 2\n"+strings.Join(funcs, ""))
}

func sum(heap []int, result ...[]int) api.Summary { return api.Summary{Heap: heap, Result: result} }

// one: of a function with one parameter and one result.
func one(heap, result int) api.Summary { return sum([]int{heap}, []int{result}) }

// every: a summary with that number everywhere.
func every(f api.Func, d int) api.Summary {
	s := api.Summary{}
	for range f.Params {
		s.Heap = append(s.Heap, d)
		s.Result = append(s.Result, slices.Repeat([]int{d}, f.Results))
	}
	return s
}

func all(p api.Program, d int) []api.Summary {
	var l []api.Summary
	for _, f := range p.Funcs {
		l = append(l, every(f, d))
	}
	return l
}

// places: where the numbers of summaries stand.
func places(l []api.Summary) []*int {
	var at []*int
	for _, s := range l {
		for i := range s.Heap {
			at = append(at, &s.Heap[i])
			for j := range s.Result[i] {
				at = append(at, &s.Result[i][j])
			}
		}
	}
	return at
}

func alikeSum(a, b api.Summary) bool {
	return slices.Equal(a.Heap, b.Heap) && slices.EqualFunc(a.Result, b.Result, slices.Equal)
}

func alikeSums(a, b []api.Summary) bool { return slices.EqualFunc(a, b, alikeSum) }

func alike(a, b api.Result) bool {
	return alikeSums(a.Sums, b.Sums) && slices.EqualFunc(a.Vars, b.Vars, slices.Equal) && slices.EqualFunc(a.Code, b.Code, slices.Equal)
}

func isNone(r api.Result) bool { return len(r.Sums)+len(r.Vars)+len(r.Code) == 0 }

// above: of summaries of one program: do the first ones say at least as much everywhere?
func above(a, b []api.Summary) bool {
	x, y := places(a), places(b)
	for i := range x {
		if *x[i] > *y[i] {
			return false
		}
	}
	return true
}

// heap: the sites on the heap, as the document's examples write them, parted by blanks and commas.
func heap(r api.Result) string {
	var l []string
	for f := range r.Vars {
		for v, out := range r.Vars[f] {
			if out {
				l = append(l, fmt.Sprintf("%d var %d", f, v))
			}
		}
		for at, out := range r.Code[f] {
			if out {
				l = append(l, fmt.Sprintf("%d new %d", f, at))
			}
		}
	}
	return strings.Join(l, ", ")
}

// shaped: are there as many truths as variables and instructions?
func shaped(p api.Program, r api.Result) bool {
	return slices.EqualFunc(p.Funcs, r.Vars, func(f api.Func, l []bool) bool { return len(l) == f.Vars }) &&
		slices.EqualFunc(p.Funcs, r.Code, func(f api.Func, l []bool) bool { return len(l) == len(f.Code) })
}

func placed(t *testing.T, what string, p api.Program, l []api.Summary, want string) {
	t.Helper()
	if r, e := whole.Place(p, l); e != api.OK || !alikeSums(r.Sums, l) || !shaped(p, r) || heap(r) != want {
		t.Errorf("P10.1: %s: Place with %v: %+v, error %d, want on the heap: %s", what, l, r, e, want)
	}
}

func told(t *testing.T, what string, p api.Program, l []api.Summary, want bool) {
	t.Helper()
	if is, e := whole.Is(p, l); e != api.OK || is != want {
		t.Errorf("P10.2: %s: Is of %v: %v, error %d, want %v", what, l, is, e, want)
	}
}

// refused: Place and Is with that error alone.
func refused(t *testing.T, what string, p api.Program, l []api.Summary, want api.Errno) {
	t.Helper()
	if r, e := whole.Place(p, l); e != want || !isNone(r) {
		t.Errorf("P10.1: %s: Place: %+v, error %d, want %d alone", what, r, e, want)
	}
	if is, e := whole.Is(p, l); e != want || is {
		t.Errorf("P10.2: %s: Is: %v, error %d, want %d alone", what, is, e, want)
	}
}

var orders = [][]int{nil, {}, {1}, {-1}, {0, 0, 0, 0}, {-1, -1, -1, -1, -1}, {3, -2, 7, 1000, -1000}, {1 << 62, -1 << 63, 1<<63 - 1, -1<<63 + 1, 5, 5, 5, 5, 5, 5, 5, 5, 5, 5, 5, 5}}

// solved: by Solve, and by Anyhow with several picks; it is a solution.
func solved(t *testing.T, what string, p api.Program, want string, sums ...api.Summary) {
	t.Helper()
	r, e := whole.Solve(p)
	if e != api.OK || !alikeSums(r.Sums, sums) || !shaped(p, r) || heap(r) != want {
		t.Errorf("P10.3: %s: Solve: %+v, error %d, want %v, on the heap: %s", what, r, e, sums, want)
	}
	for _, picks := range orders {
		anyhow(t, what, p, r, picks...)
	}
	told(t, what, p, sums, true)
	placed(t, what, p, sums, want)
}

func anyhow(t *testing.T, what string, p api.Program, want api.Result, picks ...int) {
	t.Helper()
	if r, e := whole.Anyhow(p, picks...); e != api.OK || !alike(r, want) {
		t.Fatalf("P10.4: %s: Anyhow with %v: %+v, error %d, want %+v", what, picks, r, e, want)
	}
}

// some: so many of the numbers below n.
func some(r *rand.Rand, many, n int) []int {
	var l []int
	for range many {
		l = append(l, r.Intn(n))
	}
	return l
}

func ret(args ...int) api.Instr { return api.Instr{Op: api.Return, Args: args} }

func call(n int, args, rets []int) api.Instr {
	return api.Instr{Op: api.Call, N: n, Args: args, Rets: rets}
}

// anyInstr: one that has edges, most often, and may stand in a function of the program, whose heads are there.
func anyInstr(r *rand.Rand, p api.Program, f api.Func, length int) api.Instr {
	v := func() int { return r.Intn(f.Vars) }
	ops := []int{api.Copy, api.Copy, api.Addr, api.Addr, api.New, api.Load, api.Load, api.Store, api.Set, api.Call, api.Call, api.Call, api.Return, api.If, api.Add, api.Get}
	op := ops[r.Intn(len(ops))]
	switch op {
	case api.Copy, api.Addr:
		return api.Instr{Op: op, R: v(), S: v()}
	case api.New:
		return api.Instr{Op: op, R: v(), N: 1 + r.Intn(api.MaxFields)}
	case api.Load, api.Store:
		return api.Instr{Op: op, R: v(), S: v(), N: r.Intn(api.MaxFields)}
	case api.Set:
		return api.Instr{Op: op, S: v(), N: r.Intn(p.Globals)}
	case api.Get:
		return api.Instr{Op: op, R: v(), N: r.Intn(p.Globals)}
	case api.Call:
		n := r.Intn(len(p.Funcs))
		g := p.Funcs[n]
		return call(n, some(r, g.Params, f.Vars), some(r, g.Results, f.Vars))
	case api.If:
		return api.Instr{Op: op, S: v(), N: r.Intn(length)}
	case api.Add:
		return api.Instr{Op: op, R: v(), S: v(), T: v()}
	}
	return ret(some(r, f.Results, f.Vars)...)
}

// anyProgram: of at most so many functions, each with at most so much code.
func anyProgram(r *rand.Rand, funcs, code int) api.Program {
	p := api.Program{Globals: 1 + r.Intn(api.MaxGlobals)}
	for range 1 + r.Intn(funcs) {
		vars := 1 + r.Intn(6)
		p.Funcs = append(p.Funcs, api.Func{Params: r.Intn(min(vars, 3) + 1), Results: r.Intn(3), Vars: vars})
	}
	for i, f := range p.Funcs {
		length := 1 + r.Intn(code)
		for range length - 1 {
			p.Funcs[i].Code = append(p.Funcs[i].Code, anyInstr(r, p, f, length))
		}
		p.Funcs[i].Code = append(p.Funcs[i].Code, ret(some(r, f.Results, f.Vars)...))
	}
	return p
}

// anySums: right ones; the less, the more of their numbers are None.
func anySums(r *rand.Rand, p api.Program) []api.Summary {
	sums := all(p, none)
	less := r.Intn(5)
	number := func() int {
		if d := r.Intn(api.MaxDeref + 1 + less); d <= api.MaxDeref {
			return d
		}
		return none
	}
	for _, s := range sums {
		for i := range s.Heap {
			s.Heap[i] = number()
			for j := range s.Result[i] {
				s.Result[i][j] = number()
			}
		}
	}
	return sums
}
