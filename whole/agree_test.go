package whole_test

import (
	"math/rand"
	"slices"
	"testing"

	"fugue/api"
	"fugue/code"
	"fugue/flow"
	"fugue/whole"
)

// weights: the fewest derefs with which each location flows to a root, by going round all edges until nothing falls.
func weights(locations int, edges []api.Edge, root int) []int {
	w := slices.Repeat([]int{none}, locations)
	w[root] = 0
	for fell := true; fell; {
		fell = false
		for _, x := range edges {
			if w[x.Dst] == none {
				continue
			}
			if d := min(max(w[x.Dst], 0)+x.Derefs, 3); d < w[x.Src] {
				w[x.Src] = d
				fell = true
			}
		}
	}
	return w
}

// plain: the document's words: the locations that escape, one more at a time; then the summary, number by number.
func plain(p api.Program, n int, sums []api.Summary) ([]bool, api.Summary) {
	edges, _ := flow.Edges(p, n, sums)
	f := p.Funcs[n]
	locations := flow.Locations(f)
	to := make([][]int, locations)
	for l := range to {
		to[l] = weights(locations, edges, l)
	}
	escapes := make([]bool, locations)
	for more := true; more; {
		more = false
		for l := 1 + f.Results; l < locations; l++ {
			for root := range locations {
				if !escapes[l] && (root <= f.Results || escapes[root]) && to[root][l] == -1 {
					escapes[l], more = true, true
				}
			}
		}
	}
	s := every(f, none)
	for i := range f.Params {
		v := flow.Variable(f, i)
		for root := range locations {
			if root == 0 || escapes[root] {
				s.Heap[i] = min(s.Heap[i], max(to[root][v], 0))
			}
		}
		for j := range f.Results {
			s.Result[i][j] = max(to[1+j][v], 0)
		}
	}
	return escapes, s
}

// plainF: F of all summaries at once.
func plainF(p api.Program, sums []api.Summary) []api.Summary {
	var l []api.Summary
	for f := range p.Funcs {
		_, s := plain(p, f, sums)
		l = append(l, s)
	}
	return l
}

// plainLeast: F again and again, from the lowest on.
func plainLeast(p api.Program) []api.Summary {
	l := all(p, none)
	for {
		next := plainF(p, l)
		if alikeSums(l, next) {
			return l
		}
		l = next
	}
}

func plainPlace(p api.Program, sums []api.Summary) api.Result {
	r := api.Result{Sums: sums}
	for n, f := range p.Funcs {
		escapes, _ := plain(p, n, sums)
		var vars, at []bool
		for v := range f.Vars {
			vars = append(vars, escapes[flow.Variable(f, v)])
		}
		for i := range f.Code {
			l := flow.Cell(f, i)
			at = append(at, l >= 0 && escapes[l])
		}
		r.Vars, r.Code = append(r.Vars, vars), append(r.Code, at)
	}
	return r
}

func agrees(t *testing.T, p api.Program, sums []api.Summary) {
	t.Helper()
	if r, e := whole.Place(p, sums); e != api.OK || !alike(r, plainPlace(p, sums)) {
		t.Fatalf("P10.1: %+v: Place with %v: %+v, error %d, want %+v", p, sums, r, e, plainPlace(p, sums))
	}
	told(t, "any program", p, sums, alikeSums(plainF(p, sums), sums))
}

func TestAnyProgramAndSummaries(t *testing.T) {
	for seed := range 3000 {
		r := rand.New(rand.NewSource(int64(seed)))
		p := anyProgram(r, 5, 14)
		agrees(t, p, anySums(r, p))
		agrees(t, p, plainLeast(p))
	}
}

// anyPicks: some that are few, some that are many, some beyond all that may be open.
func anyPicks(r *rand.Rand) []int {
	var l []int
	for range r.Intn(40) {
		k := r.Intn(20) - 10
		if r.Intn(4) == 0 {
			k = int(r.Uint64())
		}
		l = append(l, k)
	}
	return l
}

// W2: Solve, and Anyhow in any order, come to the least solution.
func TestAnyOrder(t *testing.T) {
	for seed := range 3000 {
		r := rand.New(rand.NewSource(int64(seed)))
		p := anyProgram(r, 7, 12)
		want := plainPlace(p, plainLeast(p))
		if got, e := whole.Solve(p); e != api.OK || !alike(got, want) {
			t.Fatalf("P10.3: %+v: Solve: %+v, error %d, want %+v", p, got, e, want)
		}
		for range 4 {
			anyhow(t, "any program", p, want, anyPicks(r)...)
		}
	}
}

// eachSums: all right summaries of a program.
func eachSums(p api.Program, do func([]api.Summary)) {
	l := all(p, 0)
	at := places(l)
	for {
		do(l)
		i := 0
		for ; i < len(at) && *at[i] == none; i++ {
			*at[i] = 0
		}
		if i == len(at) {
			return
		}
		if *at[i]++; *at[i] > api.MaxDeref {
			*at[i] = none
		}
	}
}

// Of all right summaries: which are a solution; Solve's is the lowest of them, and of all that are above what F makes of them.
func TestAllSummaries(t *testing.T) {
	solutions := 0
	for seed := range 800 {
		r := rand.New(rand.NewSource(int64(seed)))
		p := anyProgram(r, 3, 8)
		if len(places(all(p, 0))) > 4 {
			continue
		}
		least, _ := whole.Solve(p)
		found := false
		eachSums(p, func(l []api.Summary) {
			made := plainF(p, l)
			is := alikeSums(made, l)
			told(t, "all summaries", p, l, is)
			if is {
				solutions++
				found = found || alikeSums(l, least.Sums)
			}
			if above(l, made) && !above(l, least.Sums) {
				t.Fatalf("W2: %+v: %v is not above %v", p, l, least.Sums)
			}
		})
		if !found {
			t.Fatalf("P10.3: %+v: %v is no solution", p, least.Sums)
		}
	}
	if solutions < 500 {
		t.Errorf("only %d solutions were seen", solutions)
	}
}

// Higher summaries place more on the heap.
func TestHigherPlacesMore(t *testing.T) {
	for seed := range 500 {
		r := rand.New(rand.NewSource(int64(seed)))
		p := anyProgram(r, 4, 14)
		high, low := anySums(r, p), anySums(r, p)
		x, y := places(high), places(low)
		for i := range x {
			*x[i], *y[i] = min(*x[i], *y[i]), max(*x[i], *y[i])
		}
		a, _ := whole.Place(p, high)
		b, _ := whole.Place(p, low)
		for f := range p.Funcs {
			for i, out := range append(slices.Clone(b.Vars[f]), b.Code[f]...) {
				if out && !append(slices.Clone(a.Vars[f]), a.Code[f]...)[i] {
					t.Fatalf("P10.1: %+v: %v places less than %v", p, high, low)
				}
			}
		}
	}
}

// reached: the functions that one reaches by calls, itself first.
func reached(p api.Program, from int) []int {
	l := []int{from}
	for i := 0; i < len(l); i++ {
		for _, x := range p.Funcs[l[i]].Code {
			if x.Op == api.Call && !slices.Contains(l, x.N) {
				l = append(l, x.N)
			}
		}
	}
	return l
}

// A function's part hangs on those alone that it reaches: as a program of these, numbered anew, it has the same.
func TestPartHangsOnWhatIsReached(t *testing.T) {
	for seed := range 500 {
		r := rand.New(rand.NewSource(int64(seed)))
		p := anyProgram(r, 8, 8)
		full, _ := whole.Solve(p)
		keep := reached(p, r.Intn(len(p.Funcs)))
		q := api.Program{Globals: p.Globals}
		for _, n := range keep {
			f := p.Funcs[n]
			f.Code = slices.Clone(f.Code)
			for i, x := range f.Code {
				if x.Op == api.Call {
					f.Code[i].N = slices.Index(keep, x.N)
				}
			}
			q.Funcs = append(q.Funcs, f)
		}
		if e := code.Check(q); e != api.OK {
			t.Fatalf("no program: error %d", e)
		}
		part, e := whole.Solve(q)
		for i, n := range keep {
			if e != api.OK || !alikeSum(part.Sums[i], full.Sums[n]) || !slices.Equal(part.Vars[i], full.Vars[n]) || !slices.Equal(part.Code[i], full.Code[n]) {
				t.Fatalf("P10.3: function %d of %+v is solved otherwise without what it does not reach", n, p)
			}
		}
	}
}
