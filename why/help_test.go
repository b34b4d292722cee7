package why_test

import (
	"fmt"
	"math"
	"math/rand"
	"slices"
	"strings"
	"testing"

	"fugue/api"
	"fugue/text"
	"fugue/whole"
	"fugue/why"
)

// far: numbers that nothing in these tests' programs has.
var far = []int{math.MinInt, math.MinInt + 1, -1 << 32, -1 << 16, -2, 1 << 16, 1 << 20, 1 << 32, math.MaxInt - 1, math.MaxInt}

// fn: a function as text, its lines parted by semicolons.
func fn(params, results, vars int, lines string) string {
	return fmt.Sprintf("func params %d results %d vars %d\n", params, results, vars) + strings.ReplaceAll(lines, ";", "\n") + "\n"
}

// of: the program of these functions, with two globals.
func of(t *testing.T, funcs ...string) api.Program {
	t.Helper()
	lines := "globals 2\n" + strings.Join(funcs, "")
	p, e, line := text.Parse(lines)
	if e != api.OK {
		t.Fatalf("no program: error %d at line %d of\n%s", e, line, lines)
	}
	return p
}

// told: a right program's text.
func told(p api.Program) string {
	s, _ := text.Print(p)
	if len(s) > 3000 {
		return s[:3000] + ".."
	}
	return s
}

// numbers: of a step, in this order: Func, Dst, Src, Derefs, Rule, At.
type numbers [6]int

func step(n numbers) api.Step {
	return api.Step{Func: n[0], Dst: n[1], Src: n[2], Derefs: n[3], Rule: n[4], At: n[5]}
}

func steps(l ...numbers) []api.Step {
	var w []api.Step
	for _, n := range l {
		w = append(w, step(n))
	}
	return w
}

func joined(lists ...[]api.Step) []api.Step { return slices.Concat(lists...) }

// without: the list without the step at a place.
func without(w []api.Step, at int) []api.Step { return slices.Delete(slices.Clone(w), at, at+1) }

func variable(f, v int) api.Site { return api.Site{Func: f, At: -1, Var: v} }

func cell(f, at int) api.Site { return api.Site{Func: f, At: at} }

// brief: the beginning of a long list tells enough.
func brief(w []api.Step) string {
	if len(w) > 40 {
		return fmt.Sprintf("%v and %d more", w[:40], len(w)-40)
	}
	return fmt.Sprint(w)
}

func passes(t *testing.T, what string, p api.Program, s api.Site, w []api.Step) {
	t.Helper()
	if e := why.Check(p, s, w); e != api.OK {
		t.Errorf("P18.1: %s: Check of %v with %s: error %d of\n%s", what, s, brief(w), e, told(p))
	}
}

func fails(t *testing.T, what string, p api.Program, s api.Site, w []api.Step) {
	t.Helper()
	if e := why.Check(p, s, w); e != api.ErrWitness {
		t.Errorf("P18.1: %s: Check of %v with %s: error %d, want ErrWitness, of\n%s", what, s, brief(w), e, told(p))
	}
}

// found: Find's witness, which passes; no two of its steps tell one fact.
func found(t *testing.T, what string, p api.Program, s api.Site) []api.Step {
	t.Helper()
	w, e := why.Find(p, s)
	if e != api.OK {
		t.Fatalf("P18.2: %s: Find of %v: error %d of\n%s", what, s, e, told(p))
	}
	if e := why.Check(p, s, w); e != api.OK {
		t.Fatalf("P18.2: %s: Find of %v: %s is no witness: error %d of\n%s", what, s, brief(w), e, told(p))
	}
	facts := map[[4]int]bool{}
	for _, x := range w {
		facts[factOf(x)] = true
	}
	if len(facts) != len(w) {
		t.Fatalf("P18.2: %s: Find of %v: %s: %d steps tell %d facts", what, s, brief(w), len(w), len(facts))
	}
	return w
}

// missing: Find has that error and no steps.
func missing(t *testing.T, what string, p api.Program, s api.Site, want api.Errno) {
	t.Helper()
	if w, e := why.Find(p, s); e != want || len(w) > 0 {
		t.Errorf("P18.2: %s: Find of %v: %s, error %d, want the error %d alone, of\n%s", what, s, brief(w), e, want, told(p))
	}
}

// prints: the text of steps.
func prints(t *testing.T, what string, p api.Program, w []api.Step, want string) {
	t.Helper()
	if s, e := why.Print(p, w); e != api.OK || s != want {
		t.Errorf("P18.3: %s: Print of %s: %q, error %d, want %q", what, brief(w), s, e, want)
	}
}

func printsNot(t *testing.T, what string, p api.Program, w []api.Step, want api.Errno) {
	t.Helper()
	if s, e := why.Print(p, w); e != want || s != "" {
		t.Errorf("P18.3: %s: Print of %s: %q, error %d, want the error %d alone", what, brief(w), s, e, want)
	}
}

// sites: all of a program, and which of them are on the heap by the least solution.
func sites(t *testing.T, p api.Program) ([]api.Site, []bool) {
	t.Helper()
	r, e := whole.Solve(p)
	if e != api.OK {
		t.Fatalf("no right program: error %d", e)
	}
	var l []api.Site
	var on []bool
	for n, f := range p.Funcs {
		for v := range f.Vars {
			l, on = append(l, variable(n, v)), append(on, r.Vars[n][v])
		}
		for at, x := range f.Code {
			if x.Op == api.New {
				l, on = append(l, cell(n, at)), append(on, r.Code[n][at])
			}
		}
	}
	return l, on
}

// onHeap: the sites on the heap.
func onHeap(t *testing.T, p api.Program) []api.Site {
	t.Helper()
	l, on := sites(t, p)
	var heap []api.Site
	for i, s := range l {
		if on[i] {
			heap = append(heap, s)
		}
	}
	return heap
}

// agrees: just the sites that are on the heap have a witness.
func agrees(t *testing.T, what string, p api.Program) [][]api.Step {
	t.Helper()
	var all [][]api.Step
	l, on := sites(t, p)
	for i, s := range l {
		if on[i] {
			all = append(all, found(t, what, p, s))
		} else {
			missing(t, what, p, s, api.ErrSite)
		}
	}
	return all
}

func ret(args ...int) api.Instr { return api.Instr{Op: api.Return, Args: args} }

func call(n int, args, rets []int) api.Instr {
	return api.Instr{Op: api.Call, N: n, Args: args, Rets: rets}
}

// some: so many of the numbers below n.
func some(r *rand.Rand, many, n int) []int {
	var l []int
	for range many {
		l = append(l, r.Intn(n))
	}
	return l
}
