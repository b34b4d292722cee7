package flow_test

import (
	"math"
	"math/rand"
	"slices"
	"testing"

	"fugue/api"
	"fugue/flow"
)

// named: which fields an operation names, as letters; A and B are Args and Rets.
func named(op int) string {
	names := map[int]string{api.Int: "RN", api.Null: "R", api.Copy: "RS", api.Addr: "RS", api.Add: "RST", api.Less: "RST", api.Same: "RST", api.New: "RN", api.Load: "RSN", api.Store: "RSN",
		api.Get: "RN", api.Set: "SN", api.Call: "NAB", api.Print: "S", api.Jump: "N", api.If: "SN", api.Return: "A"}
	return names[op]
}

func within(x, low, high int) bool { return low <= x && x <= high }

func plainHead(f api.Func) bool {
	return within(f.Vars, 0, 255) && within(f.Params, 0, 8) && f.Params <= f.Vars && within(f.Results, 0, 4)
}

// plainFields: are its variables there, and is nothing set that it does not name?
func plainFields(f api.Func, in api.Instr) bool {
	names := named(in.Op)
	for k, x := range []int{in.R, in.S, in.T} {
		if slices.Contains([]byte(names), "RST"[k]) && !within(x, 0, f.Vars-1) || !slices.Contains([]byte(names), "RST"[k]) && x != 0 {
			return false
		}
	}
	for k, l := range [][]int{in.Args, in.Rets} {
		if !slices.Contains([]byte(names), "AB"[k]) && len(l) > 0 || slices.ContainsFunc(l, func(v int) bool { return !within(v, 0, f.Vars-1) }) {
			return false
		}
	}
	return names != "" && (slices.Contains([]byte(names), 'N') || in.N == 0)
}

// plainInstr: is it right where it stands, by the words of chapters 1 and 7?
func plainInstr(p api.Program, f api.Func, in api.Instr) bool {
	if !plainFields(f, in) {
		return false
	}
	switch in.Op {
	case api.New:
		return within(in.N, 1, 8)
	case api.Load, api.Store:
		return within(in.N, 0, 7)
	case api.Get, api.Set:
		return within(in.N, 0, p.Globals-1)
	case api.Jump, api.If:
		return within(in.N, 0, len(f.Code)-1)
	case api.Return:
		return len(in.Args) == f.Results
	case api.Call:
		if !within(in.N, 0, len(p.Funcs)-1) {
			return false
		}
		g := p.Funcs[in.N]
		return plainHead(g) && len(in.Args) == g.Params && len(in.Rets) == g.Results
	}
	return true
}

func plainSummary(s api.Summary, f api.Func) bool {
	if len(s.Heap) != f.Params || len(s.Result) != f.Params {
		return false
	}
	var all []int
	for _, l := range s.Result {
		if len(l) != f.Results {
			return false
		}
		all = append(all, l...)
	}
	return !slices.ContainsFunc(append(all, s.Heap...), func(d int) bool { return !slices.Contains([]int{0, 1, 2, 3, 9}, d) })
}

func plainRight(p api.Program, n int, sums []api.Summary) bool {
	if !within(n, 0, len(p.Funcs)-1) || len(sums) != len(p.Funcs) || !within(p.Globals, 0, 16) {
		return false
	}
	f := p.Funcs[n]
	if !plainHead(f) || !within(len(f.Code), 1, 4096) {
		return false
	}
	for _, in := range f.Code {
		if !plainInstr(p, f, in) || in.Op == api.Call && !plainSummary(sums[in.N], p.Funcs[in.N]) {
			return false
		}
	}
	last := f.Code[len(f.Code)-1].Op
	return last == api.Jump || last == api.Return
}

// plain: the edges by the chapter's table.
func plain(p api.Program, n int, sums []api.Summary) ([]api.Edge, api.Errno) {
	if !plainRight(p, n, sums) {
		return nil, api.ErrArg
	}
	var l []api.Edge
	f := p.Funcs[n]
	v := func(v int) int { return 1 + f.Results + v }
	cells := v(f.Vars)
	for _, in := range f.Code {
		switch in.Op {
		case api.Copy:
			l = append(l, e(v(in.R), v(in.S), 0))
		case api.Addr:
			l = append(l, e(v(in.R), v(in.S), -1))
		case api.New:
			l = append(l, e(v(in.R), cells, -1))
			cells++
		case api.Load:
			l = append(l, e(v(in.R), v(in.S), 1))
		case api.Store, api.Set:
			l = append(l, e(0, v(in.S), 0))
		case api.Return:
			for j, a := range in.Args {
				l = append(l, e(1+j, v(a), 0))
			}
		case api.Call:
			for i, a := range in.Args {
				l = append(l, e(0, v(a), sums[in.N].Heap[i]))
				for j, b := range in.Rets {
					l = append(l, e(v(b), v(a), sums[in.N].Result[i][j]))
				}
			}
		}
	}
	return slices.DeleteFunc(l, func(x api.Edge) bool { return x.Derefs == none }), api.OK
}

func agrees(t *testing.T, what any, p api.Program, f int, sums []api.Summary) bool {
	t.Helper()
	got, err := flow.Edges(p, f, sums)
	want, wanted := plain(p, f, sums)
	if err != wanted || !slices.Equal(got, want) {
		t.Fatalf("P7.2: %v: Edges(%+v, %d, %v): %v, error %d, want %v, %d", what, p, f, sums, got, err, want, wanted)
	}
	return err == api.OK
}

func TestAsThePlainOne(t *testing.T) {
	for seed := range 5000 {
		r := rand.New(rand.NewSource(int64(seed)))
		p := anyProgram(r)
		for f := range p.Funcs {
			if !agrees(t, seed, p, f, anySums(r, p)) {
				t.Fatalf("seed %d makes a program that is wrong", seed)
			}
		}
	}
}

// spoiled: a number near a limit, or far from all.
func spoiled(r *rand.Rand) int {
	near := []int{-1, 0, 1, 2, 3, 4, 5, 7, 8, 9, 10, 16, 17, 255, 256, 1 << 16, 1 << 32, math.MinInt, math.MaxInt}
	return near[r.Intn(len(near))]
}

func spoilList(r *rand.Rand, l []int) []int {
	if len(l) == 0 || r.Intn(2) == 0 {
		return append(slices.Clone(l), spoiled(r))
	}
	if r.Intn(2) == 0 {
		return l[:len(l)-1]
	}
	l[r.Intn(len(l))] = spoiled(r)
	return l
}

// spoil: one thing of the program or the summaries is another then, maybe a wrong one.
func spoil(r *rand.Rand, p *api.Program, sums []api.Summary) []api.Summary {
	f := &p.Funcs[r.Intn(len(p.Funcs))]
	in := &f.Code[r.Intn(len(f.Code))]
	s := &sums[r.Intn(len(sums))]
	switch r.Intn(16) {
	case 0:
		p.Globals = spoiled(r)
	case 1:
		f.Params = spoiled(r)
	case 2:
		f.Results = spoiled(r)
	case 3:
		f.Vars = spoiled(r)
	case 4:
		f.Code = f.Code[:r.Intn(len(f.Code)+1)]
	case 5:
		in.Op = r.Intn(20) - 1
	case 6:
		in.R = spoiled(r)
	case 7:
		in.S = spoiled(r)
	case 8:
		in.T = spoiled(r)
	case 9, 10:
		in.N = spoiled(r)
	case 11:
		in.Args = spoilList(r, in.Args)
	case 12:
		in.Rets = spoilList(r, in.Rets)
	case 13:
		s.Heap = spoilList(r, s.Heap)
	case 14:
		if len(s.Result) > 0 {
			i := r.Intn(len(s.Result))
			s.Result[i] = spoilList(r, s.Result[i])
		}
	case 15:
		return sums[:r.Intn(len(sums)+1)]
	}
	return sums
}

func TestSpoiledAsThePlainOne(t *testing.T) {
	passed, wrong := 0, 0
	for seed := range 40000 {
		r := rand.New(rand.NewSource(int64(seed)))
		p := anyProgram(r)
		sums := spoil(r, &p, anySums(r, p))
		for f := range p.Funcs {
			if agrees(t, seed, p, f, sums) {
				passed++
			} else {
				wrong++
			}
		}
	}
	if passed < 5000 || wrong < 5000 {
		t.Errorf("%d passed, %d were wrong: too few to tell", passed, wrong)
	}
}

// Each operation with each number from -1 to 3 in each field, and a few lists.
func TestAllSmallInstructions(t *testing.T) {
	lists := [][]int{nil, {0}, {1}, {2}, {-1}, {0, 1}, {1, 1}, {1, 2}, {0, 0, 0}}
	g, h := head(1, 2, 1), head(2, 1, 2)
	f := head(1, 1, 2)
	sums := []api.Summary{{Heap: []int{0}, Result: [][]int{{none}}}, {Heap: []int{none}, Result: [][]int{{1, 2}}}, {Heap: []int{3, 1}, Result: [][]int{{0}, {none}}}}
	for op := -1; op <= 18; op++ {
		for bits := range 5 * 5 * 5 * 5 {
			in := api.Instr{Op: op, R: bits%5 - 1, S: bits/5%5 - 1, T: bits/25%5 - 1, N: bits/125 - 1}
			agrees(t, "a small instruction", program(2, with(f, in, ret(0)), g, h), 0, sums)
			if in.R != 0 || in.S != 0 || in.T != 0 {
				continue
			}
			for _, in.Args = range lists {
				for _, in.Rets = range lists {
					agrees(t, "a small instruction", program(2, with(f, in, ret(0)), g, h), 0, sums)
					agrees(t, "a small instruction at the end", program(2, with(f, ret(0), in), g, h), 0, sums)
				}
			}
		}
	}
}

// What follows from the promises: higher summaries have an edge for each of the lower ones' with the same ends and at most its derefs; no edge goes to a New, or from the heap or a result; one with -1 goes to a variable.
func TestWhatFollows(t *testing.T) {
	for seed := range 3000 {
		r := rand.New(rand.NewSource(int64(seed)))
		p := anyProgram(r)
		low, high := anySums(r, p), anySums(r, p)
		for g := range high {
			raise(high[g].Heap, low[g].Heap)
			for i := range high[g].Result {
				raise(high[g].Result[i], low[g].Result[i])
			}
		}
		for n, f := range p.Funcs {
			less, _ := flow.Edges(p, n, low)
			more, _ := flow.Edges(p, n, high)
			firstVar, firstNew := 1+f.Results, 1+f.Results+f.Vars
			for _, x := range more {
				if x.Dst < 0 || x.Dst >= firstNew || x.Src < firstVar || x.Src >= flow.Locations(f) || x.Derefs == -1 && x.Dst < firstVar {
					t.Fatalf("P7.2: seed %d: the edge %v of a function with %d results, %d variables", seed, x, f.Results, f.Vars)
				}
			}
			for _, x := range less {
				if !slices.ContainsFunc(more, func(y api.Edge) bool { return x.Dst == y.Dst && x.Src == y.Src && y.Derefs <= x.Derefs }) {
					t.Fatalf("P7.2: seed %d: higher summaries have no edge for %v", seed, x)
				}
			}
		}
	}
}

// raise: what stands there says as much as the other at least then.
func raise(l, other []int) {
	for i := range l {
		l[i] = min(l[i], other[i])
	}
}
