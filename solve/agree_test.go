package solve_test

import (
	"math/rand"
	"slices"
	"testing"

	"fugue/api"
	"fugue/calls"
	"fugue/flow"
	"fugue/solve"
)

// weights: the fewest derefs with which each location flows to a root, by going round all edges until nothing falls.
func weights(locations int, edges []api.Edge, root int) []int {
	w := slices.Repeat([]int{none}, locations)
	w[root] = 0
	for fell := true; fell; {
		fell = false
		for _, x := range edges {
			if w[x.Dst] == none {
				continue
			}
			if d := min(max(w[x.Dst], 0)+x.Derefs, 3); d < w[x.Src] {
				w[x.Src] = d
				fell = true
			}
		}
	}
	return w
}

// plain: the chapter's words: one location more at a time, in an order as it comes; then number by number.
func plain(r *rand.Rand, p api.Program, n int, sums []api.Summary) ([]bool, api.Summary) {
	edges, _ := flow.Edges(p, n, sums)
	f := p.Funcs[n]
	locations := flow.Locations(f)
	to := make([][]int, locations)
	for l := range to {
		to[l] = weights(locations, edges, l)
	}
	escapes := make([]bool, locations)
	for more := true; more; {
		more = false
		for _, l := range r.Perm(locations) {
			if l <= f.Results || escapes[l] {
				continue
			}
			for root := range locations {
				if (root <= f.Results || escapes[root]) && to[root][l] == -1 {
					escapes[l], more = true, true
				}
			}
		}
	}
	s := every(f, none)
	for i := range f.Params {
		v := flow.Variable(f, i)
		for root := range locations {
			if root == 0 || escapes[root] {
				s.Heap[i] = min(s.Heap[i], max(to[root][v], 0))
			}
		}
		for j := range f.Results {
			s.Result[i][j] = max(to[1+j][v], 0)
		}
	}
	return escapes, s
}

// plainRounds: the members one behind the other, in this order, until a round changes nothing; the summaries of all functions then.
func plainRounds(r *rand.Rand, p api.Program, members []int, sums []api.Summary) ([]api.Summary, int) {
	sums = slices.Clone(sums)
	for _, m := range members {
		sums[m] = every(p.Funcs[m], none)
	}
	asked := 0
	for changed := true; changed; {
		changed = false
		for _, m := range members {
			_, s := plain(r, p, m, sums)
			changed = changed || !alike(s, sums[m])
			sums[m] = s
			asked++
		}
	}
	return sums, asked
}

func at(sums []api.Summary, members []int) []api.Summary {
	var l []api.Summary
	for _, m := range members {
		l = append(l, sums[m])
	}
	return l
}

func agrees(t *testing.T, r *rand.Rand, p api.Program, f int, sums []api.Summary) {
	t.Helper()
	escapes, s, e := solve.Function(p, f, sums)
	wantEscapes, want := plain(r, p, f, sums)
	if e != api.OK || !slices.Equal(escapes, wantEscapes) || !alike(s, want) {
		t.Fatalf("P8.1: %+v with %v: %v, %v, error %d, want %v, %v", p.Funcs[f], sums, escapes, s, e, wantEscapes, want)
	}
}

// All functions of three instructions that have edges, over two variables, one of them the parameter.
func TestAllSmallFunctions(t *testing.T) {
	var each []api.Instr
	for _, op := range []int{api.Copy, api.Addr, api.Load, api.New, api.Set} {
		for a := range 2 {
			for b := range 2 {
				switch {
				case op == api.New && b == 0:
					each = append(each, api.Instr{Op: op, R: a, N: 1})
				case op == api.Set && b == 0:
					each = append(each, api.Instr{Op: op, S: a})
				case op != api.New && op != api.Set:
					each = append(each, api.Instr{Op: op, R: a, S: b})
				}
			}
		}
	}
	each = append(each, call(0, []int{0}, []int{1}), call(0, []int{1}, []int{0}))
	r := rand.New(rand.NewSource(1))
	for _, a := range each {
		for _, b := range each {
			for _, c := range each {
				for v := range 2 {
					p := api.Program{Globals: 1, Funcs: []api.Func{{Params: 1, Results: 1, Vars: 2, Code: []api.Instr{a, b, c, ret(v)}}}}
					agrees(t, r, p, 0, lowest(p))
					agrees(t, r, p, 0, []api.Summary{sum([]int{v}, []int{1 - v})})
				}
			}
		}
	}
}

func TestAnyFunctions(t *testing.T) {
	for seed := range 4000 {
		r := rand.New(rand.NewSource(int64(seed)))
		p := anyProgram(r, 4, 20)
		sums := anySums(r, p)
		for f := range p.Funcs {
			agrees(t, r, p, f, sums)
		}
	}
}

// With the graph of the program, and with that of another one.
func TestAnyComponents(t *testing.T) {
	rings, long := 0, 0
	for seed := range 3000 {
		r := rand.New(rand.NewSource(int64(seed)))
		p := anyProgram(r, 6, 9)
		for _, g := range []*calls.Graph{graph(t, p), graph(t, anyProgram(r, 7, 7))} {
			sums := anySums(r, p)
			for c := range g.Len() {
				members := g.Members(c)
				l, n, e := solve.Component(p, g, c, sums)
				if members[len(members)-1] >= len(p.Funcs) {
					if e != api.ErrArg {
						t.Fatalf("P8.3: seed %d: the members %v of %d functions: error %d", seed, members, len(p.Funcs), e)
					}
					continue
				}
				all, asked := plainRounds(r, p, members, sums)
				if e != api.OK || n != asked || !slices.EqualFunc(l, at(all, members), alike) {
					t.Fatalf("P8.3: seed %d: the component %d of %+v: %v, %d passes, error %d, want %v, %d passes", seed, c, p, l, n, e, at(all, members), asked)
				}
				if len(members) > 1 {
					rings++
				}
				if asked > 3*len(members) {
					long++
				}
			}
		}
	}
	if rings < 500 || long < 50 {
		t.Errorf("too few of the components are rings (%d), or take long (%d)", rings, long)
	}
}

// What follows: any order gives the same summaries; they are the least with which nothing changes; the rounds come to an end in time.
func TestAnyOrderComesToTheSame(t *testing.T) {
	for seed := range 1500 {
		r := rand.New(rand.NewSource(int64(seed)))
		p := anyProgram(r, 5, 9)
		g := graph(t, p)
		sums := anySums(r, p)
		c := g.Len() - 1
		members := g.Members(c)
		l, n, _ := solve.Component(p, g, c, sums)
		numbers := 0
		for _, m := range members {
			numbers += p.Funcs[m].Params * (1 + p.Funcs[m].Results)
		}
		if rounds := n / len(members); n%len(members) != 0 || rounds < 1 || rounds > 1+4*numbers {
			t.Fatalf("P8.3: seed %d: %d passes of %d members with %d numbers", seed, n, len(members), numbers)
		}
		turned := slices.Clone(members)
		r.Shuffle(len(turned), func(i, k int) { turned[i], turned[k] = turned[k], turned[i] })
		all, _ := plainRounds(r, p, turned, sums)
		if !slices.EqualFunc(l, at(all, members), alike) {
			t.Fatalf("P8.3: seed %d: in another order: %v, want %v", seed, at(all, members), l)
		}
		for i, m := range members {
			if _, s, e := solve.Function(p, m, all); e != api.OK || !alike(s, l[i]) {
				t.Fatalf("P8.3: seed %d: the function %d has %v, and then %v", seed, m, l[i], s)
			}
		}
	}
}

// What follows: with summaries that say more, more escapes and no number rises.
func TestFunctionIsMonotone(t *testing.T) {
	for seed := range 3000 {
		r := rand.New(rand.NewSource(int64(seed)))
		p := anyProgram(r, 4, 15)
		low, other := anySums(r, p), anySums(r, p)
		high := lowest(p)
		for n, s := range high {
			for i := range s.Heap {
				s.Heap[i] = min(low[n].Heap[i], other[n].Heap[i])
				for j := range s.Result[i] {
					s.Result[i][j] = min(low[n].Result[i][j], other[n].Result[i][j])
				}
			}
		}
		for f := range p.Funcs {
			few, a, _ := solve.Function(p, f, low)
			more, b, _ := solve.Function(p, f, high)
			if !above(b, a) {
				t.Fatalf("P8.1: seed %d: with more: %v, with less: %v", seed, b, a)
			}
			for l := range few {
				if few[l] && !more[l] {
					t.Fatalf("P8.1: seed %d: the location %d escapes with less alone", seed, l)
				}
			}
		}
	}
}
