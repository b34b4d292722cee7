package front_test

import (
	"math/rand"
	"slices"
	"testing"

	"fugue/api"
	"fugue/front"
	"fugue/run"
	"fugue/whole"
)

// callsOf: how often each function is called, by the names of the callees.
func callsOf(t *tree, f *fnOf) map[string]int {
	l := map[string]int{}
	for _, e := range exprsOf(&tree{all: []any{f}}) {
		if e.op == "call" {
			l[e.word]++
		}
	}
	return l
}

// shaped: the program has what the source has.
func shaped(t *testing.T, src string, of *tree, p api.Program) {
	t.Helper()
	fns := of.fns()
	if p.Globals != len(of.globals()) || len(p.Funcs) != len(fns) {
		t.Fatalf("P25.1: %q: %d globals, %d functions", src, p.Globals, len(p.Funcs))
	}
	for i, f := range p.Funcs {
		if f.Params != len(fns[i].params) || f.Results != len(fns[i].results) {
			t.Fatalf("P25.1: %q: function %d: %d parameters, %d results", src, i, f.Params, f.Results)
		}
		calls := callsOf(of, fns[i])
		for _, in := range f.Code {
			if in.Op == api.Call {
				calls[fns[in.N].name]--
			}
		}
		for name, n := range calls {
			if n != 0 {
				t.Fatalf("P25.1: %q: function %d: %d calls of %s are missing", src, i, n, name)
			}
		}
	}
}

func TestAnySource(t *testing.T) {
	ends := map[int]int{}
	long := 0
	for seed := range 1000 {
		r := rand.New(rand.NewSource(int64(seed)))
		of := anyTree(r)
		plain := laidOut(tokensOfTree(of, nil))
		src := scattered(r, tokensOfTree(of, r))
		if slices.ContainsFunc(of.fns(), func(f *fnOf) bool { return f.tokens > 500 }) {
			continue
		}
		if w := asked(of); w.err != api.OK {
			t.Fatalf("seed %d: %s: %v", seed, plain, w)
		}
		p := taken(t, "a source by chance", src)
		shaped(t, src, of, p)
		for _, s := range []string{src, plain} {
			if text, e, line := front.Print(s); text != plain || e != api.OK || line != 0 {
				t.Fatalf("P25.4: seed %d: Print(%q): %q, %d at %d, want %q", seed, s, text, e, line, plain)
			}
		}
		placed, _ := whole.Solve(p)
		for range 3 {
			args := anyArgs(r, of)
			full := meant(of, 300, args)
			for _, fuel := range []int{r.Intn(20), r.Intn(full.Steps + 2), full.Steps - 1, full.Steps, 300} {
				want := meant(of, fuel, args)
				if trace, e := front.Run(src, fuel, args...); e != api.OK || !alike(trace, want) {
					t.Fatalf("P25.2: seed %d: Run(%q, %d, %v): %+v, %d, want %+v", seed, plain, fuel, args, trace, e, want)
				}
			}
			for _, fuel := range []int{r.Intn(20), r.Intn(full.Steps + 2), full.Steps} {
				keeps(t, plain, p, fuel, args)
			}
			a, _ := run.Run(p, placed, 5000, nums(args...)...)
			if b := onHeap(t, p, 5000, args); !alike(a, b) {
				t.Fatalf("W13: %q: with cells in frames %+v, on the heap %+v", plain, a, b)
			}
			if full.Steps > 30 {
				long++
			}
			ends[full.End]++
		}
	}
	if ends[api.Done] < 500 || ends[api.Nils] < 500 || ends[api.Fuel] < 500 || long < 1000 {
		t.Errorf("ends %v, %d of more than 30 steps", ends, long)
	}
}

// Trees with things changed against a plain reading of the table.
func TestAnySpoiltSource(t *testing.T) {
	told := map[api.Errno]int{}
	for seed := range 20000 {
		r := rand.New(rand.NewSource(int64(seed)))
		of := anyTree(r)
		for range 1 + r.Intn(3) {
			spoil(r, of)
		}
		tokens := tokensOfTree(of, r)
		if slices.ContainsFunc(of.fns(), func(f *fnOf) bool { return f.tokens > 500 }) {
			continue
		}
		src := onLines(tokens)
		want := asked(of)
		told[want.err]++
		if _, e, line := front.Compile(src); e != want.err || line != want.token+1 {
			t.Fatalf("P25.1: seed %d: Compile: %d at %d, want %d at %d: %s", seed, e, line, want.err, want.token+1, show(src))
		}
		if want.err == api.OK {
			continue
		}
		refusedAt(t, src, want.err, want.token+1)
		// What Print makes of it is no better and no worse.
		text, _, _ := front.Print(src)
		if again, e, _ := front.Print(text); again != text || e != api.OK {
			t.Fatalf("P25.4: seed %d: Print(%q): %q, %d", seed, text, again, e)
		}
		if _, e, _ := front.Compile(text); e != want.err {
			t.Fatalf("P25.4: seed %d: Compile(%q): %d, want %d", seed, text, e, want.err)
		}
	}
	if told[api.OK] < 1000 || told[api.ErrName] < 5000 || told[api.ErrType] < 3000 {
		t.Errorf("told %v", told)
	}
}
