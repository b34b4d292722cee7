package plan_test

import (
	"math"
	"math/rand"
	"slices"
	"testing"

	"fugue/api"
	"fugue/plan"
)

// kinds: small programs with many calls; some whose variables, and some whose instructions, come to the limits.
var kinds = []kind{{6, 9, 6, 3}, {9, 14, 3, 6}, {5, 20, 120, 5}, {4, 60, 250, 9}, {4, 1500, 5, 9}}

// anyBudget: small ones for the most part, now and then one about the limits or at the ends of the numbers.
func anyBudget(r *rand.Rand, most int) int {
	switch r.Intn(8) {
	case 0:
		return ends[r.Intn(len(ends))]
	case 1:
		return api.MaxCode - 2 + r.Intn(5)
	}
	return r.Intn(most + 1)
}

// anyMoves: some of the calls that may be inlined, for the most part; now and then one that may not be, one twice, or two in the wrong order.
func anyMoves(r *rand.Rand, p api.Program, may []api.Move) []api.Move {
	var l []api.Move
	out := r.Intn(3)
	for _, m := range may {
		if r.Intn(3) >= out {
			l = append(l, m)
		}
	}
	for r.Intn(3) == 0 {
		n := r.Intn(len(p.Funcs))
		m := api.Move{Func: n, At: r.Intn(len(p.Funcs[n].Code))}
		switch r.Intn(4) {
		case 0:
			m.At = ends[r.Intn(len(ends))]
		case 1:
			m = api.Move{Func: r.Intn(len(p.Funcs)+2) - 1, At: r.Intn(len(p.Funcs[n].Code)+2) - 1}
		}
		at, is := slices.BinarySearchFunc(l, m, func(a, b api.Move) int {
			if a.Func != b.Func {
				return a.Func - b.Func
			}
			return a.At - b.At
		})
		if !is || r.Intn(4) == 0 {
			l = slices.Insert(l, at, m)
		}
	}
	if len(l) > 1 && r.Intn(5) == 0 {
		i, k := r.Intn(len(l)), r.Intn(len(l))
		l[i], l[k] = l[k], l[i]
	}
	return l
}

func TestCheckAsThePlainOne(t *testing.T) {
	seen := map[api.Errno]int{}
	full := 0
	for seed := range 3000 {
		r := rand.New(rand.NewSource(int64(seed)))
		p := anyProgram(r, kinds[seed%len(kinds)])
		reach := reaching(p)
		may := candidates(p, reach)
		for range 6 {
			l := anyMoves(r, p, may)
			want := api.ErrPlan
			if plainPlan(p, reach, l) {
				want = api.OK
			} else if len(l) > 0 && !slices.ContainsFunc(l, func(m api.Move) bool { return !plainMay(p, reach, m) }) && !plainFits(p, l) {
				full++
			}
			if e := plan.Check(p, l); e != want {
				t.Fatalf("P16.1: seed %d: Check of %s: error %d, want %d", seed, brief(l), e, want)
			}
			if len(l) > 0 {
				seen[want]++
			}
		}
	}
	if seen[api.OK] < 2000 || seen[api.ErrPlan] < 2000 || full < 300 {
		t.Errorf("the plans are too much alike: %v, %d beyond the limits", seen, full)
	}
}

func TestMakeAsThePlainOne(t *testing.T) {
	none, some, every := 0, 0, 0
	for seed := range 3000 {
		r := rand.New(rand.NewSource(int64(seed)))
		k := kinds[seed%len(kinds)]
		if k.code > 1000 && seed%50 > 10 {
			k.code = 300
		}
		p := anyProgram(r, k)
		reach := reaching(p)
		for range 3 {
			callee, function := anyBudget(r, k.code), anyBudget(r, 3*k.code+k.vars)
			want := plainMake(p, reach, callee, function)
			l, e := plan.Make(p, callee, function)
			if e != api.OK || !slices.Equal(l, want) {
				t.Fatalf("P16.2: seed %d: Make(%d, %d): %s, error %d, want %s", seed, callee, function, brief(l), e, brief(want))
			}
			switch {
			case len(want) == 0:
				none++
			case len(want) < len(candidates(p, reach)):
				some++
			default:
				every++
			}
		}
	}
	if none < 500 || some < 500 || every < 200 {
		t.Errorf("the plans are too much alike: %d with no move, %d with some, %d with all", none, some, every)
	}
}

// Check of what Make makes is OK, so is that of each first part of a plan, and of each part of it.
func TestWhatIsMadeIsAPlan(t *testing.T) {
	for seed := range 1500 {
		r := rand.New(rand.NewSource(int64(seed)))
		k := kinds[seed%4]
		p := anyProgram(r, k)
		l, e := plan.Make(p, anyBudget(r, k.code), anyBudget(r, 3*k.code+k.vars))
		if e != api.OK {
			t.Fatalf("P16.2: seed %d: error %d", seed, e)
		}
		for n := range len(l) + 1 {
			checked(t, "a first part of what is made", p, l[:n], api.OK)
		}
		part := slices.DeleteFunc(slices.Clone(l), func(api.Move) bool { return r.Intn(2) == 0 })
		checked(t, "a part of what is made", p, part, api.OK)
	}
}

// leftOut: the place, among the calls that may be inlined, of the first that is not named.
func leftOut(may, named []api.Move) int {
	for i, m := range may {
		if i >= len(named) || named[i] != m {
			return i
		}
	}
	return len(may)
}

// Greater budgets never make the first move that is left out come earlier.
func TestGreaterBudgets(t *testing.T) {
	later := 0
	for seed := range 1500 {
		r := rand.New(rand.NewSource(int64(seed)))
		k := kinds[seed%4]
		p := anyProgram(r, k)
		may := candidates(p, reaching(p))
		callee, function := r.Intn(k.code), r.Intn(2*k.code)
		last := 0
		for range 6 {
			l, e := plan.Make(p, callee, function)
			if out := leftOut(may, l); e != api.OK || out < last {
				t.Fatalf("P16.2: seed %d: Make(%d, %d): error %d, the first move that is left out is the %d., with smaller budgets the %d.", seed, callee, function, e, out, last)
			} else if out > last {
				last = out
				later++
			}
			if r.Intn(2) == 0 {
				callee += r.Intn(k.code)
			}
			if r.Intn(2) == 0 {
				function += r.Intn(3 * k.code)
			}
		}
	}
	if later < 500 {
		t.Errorf("the budgets are too much alike: only %d times a later one", later)
	}
}

// Renumbered functions and variables have the same plans, numbered so: a plan without budgets names all that fit, and here all do.
func TestOtherNumbers(t *testing.T) {
	named := 0
	for seed := range 600 {
		r := rand.New(rand.NewSource(int64(seed)))
		p := anyProgram(r, kinds[0])
		as := r.Perm(len(p.Funcs))
		q := api.Program{Globals: p.Globals, Funcs: make([]api.Func, len(p.Funcs))}
		for n, f := range p.Funcs {
			f.Code = slices.Clone(f.Code)
			for at := range f.Code {
				if f.Code[at].Op == api.Call {
					f.Code[at].N = as[f.Code[at].N]
				}
			}
			q.Funcs[as[n]] = f
		}
		one, e := plan.Make(p, math.MaxInt, math.MaxInt)
		two, f := plan.Make(q, math.MaxInt, math.MaxInt)
		if len(one) < len(candidates(p, reaching(p))) {
			continue
		}
		for i := range one {
			one[i].Func = as[one[i].Func]
		}
		slices.SortStableFunc(one, func(a, b api.Move) int { return a.Func - b.Func })
		if e != api.OK || f != api.OK || !slices.Equal(one, two) {
			t.Fatalf("W12: seed %d: %s, and with other numbers %s", seed, brief(one), brief(two))
		}
		named += len(one)
	}
	if named < 500 {
		t.Errorf("only %d moves were made", named)
	}
}
