package engine_test

import (
	"math/rand"
	"slices"
	"testing"

	"fugue/api"
	"fugue/code"
	"fugue/engine"
	"fugue/run"
	"fugue/sums"
)

func sameTrace(a, b api.Trace) bool {
	return slices.Equal(a.Prints, b.Prints) && slices.Equal(a.Results, b.Results) && a.End == b.End && a.Steps == b.Steps
}

// placement: what the bytes say.
func placement(t *testing.T, p api.Program, workers int, script ...int) api.Result {
	t.Helper()
	got := engine.Analyze(encoded(t, p), workers, script...)
	r, e := sums.DecodeResult(p, got.Bytes)
	if got.Err != api.OK || e != api.OK {
		t.Fatalf("P15.1: errors %d, %d", got.Err, e)
	}
	return r
}

// sound: the run whose cells lie there has the trace of the run on the heap, with any fuel, and never dangles.
func sound(t *testing.T, p api.Program, h api.Result, most int, args ...api.Value) api.Trace {
	t.Helper()
	want, e := run.Run(p, run.AllHeap(p), most, args...)
	got, f := run.Run(p, h, most, args...)
	if e != api.OK || f != api.OK || got.End == api.Dangle || !sameTrace(got, want) {
		t.Fatalf("W3: %v with %v, on the heap %v: errors %d, %d: %+v, want %+v", p, args, h, e, f, got, want)
	}
	return got
}

// inFrame: the placement of nothing on the heap.
func inFrame(p api.Program) api.Result {
	var h api.Result
	for _, f := range p.Funcs {
		h.Vars, h.Code = append(h.Vars, make([]bool, f.Vars)), append(h.Code, make([]bool, len(f.Code)))
	}
	return h
}

// anyRun: a program whose runs go far: a function's variables begin as pointers, mostly to each other and to new cells, jumps go forward, and a New's first field is filled at once.
func anyRun(r *rand.Rand) api.Program {
	p := api.Program{Globals: 2}
	n := 2 + r.Intn(5)
	for range n {
		vars := 2 + r.Intn(4)
		p.Funcs = append(p.Funcs, api.Func{Params: r.Intn(3), Results: r.Intn(3), Vars: vars})
	}
	for i := range p.Funcs {
		f := &p.Funcs[i]
		for v := f.Params; v < f.Vars; v++ {
			f.Code = append(f.Code, anyPointer(r, *f, v)...)
		}
		for range r.Intn(10) {
			f.Code = append(f.Code, anyMove(r, p, i)...)
		}
		length := len(f.Code)
		for at, x := range f.Code {
			if x.Op == api.If {
				f.Code[at].N = at + 1 + r.Intn(length-at)
			}
		}
		f.Code = append(f.Code, ret(some(r, f.Results, f.Vars)...))
	}
	return p
}

// anyPointer: the variable comes to point to a cell.
func anyPointer(r *rand.Rand, f api.Func, v int) []api.Instr {
	if r.Intn(2) == 0 {
		return []api.Instr{{Op: api.Addr, R: v, S: r.Intn(f.Vars)}}
	}
	return []api.Instr{{Op: api.New, R: v, N: 1 + r.Intn(2)}, {Op: api.Store, R: v, S: r.Intn(f.Vars)}}
}

// anyMove: a pointer goes from here to there; calls go to those behind, now and then to any.
func anyMove(r *rand.Rand, p api.Program, i int) []api.Instr {
	f := p.Funcs[i]
	v := func() int { return r.Intn(f.Vars) }
	switch r.Intn(12) {
	case 0:
		return []api.Instr{{Op: api.Copy, R: v(), S: v()}}
	case 1, 2:
		return []api.Instr{{Op: api.Load, R: v(), S: v()}}
	case 3:
		return []api.Instr{{Op: api.Store, R: v(), S: v()}}
	case 4:
		return []api.Instr{{Op: api.Set, S: v(), N: r.Intn(2)}}
	case 5:
		return []api.Instr{{Op: api.Get, R: v(), N: r.Intn(2)}}
	case 6:
		return anyPointer(r, f, v())
	case 7:
		return []api.Instr{{Op: api.Print, S: v()}, {Op: api.Same, R: v(), S: v(), T: v()}, {Op: api.Print, S: v()}}
	case 8:
		return []api.Instr{{Op: api.If, S: v()}}
	}
	n := min(i+1+r.Intn(2), len(p.Funcs)-1)
	if n == i || r.Intn(8) == 0 {
		n = r.Intn(len(p.Funcs))
	}
	x := call(n, some(r, p.Funcs[n].Params, f.Vars), some(r, p.Funcs[n].Results, f.Vars))
	if len(x.Rets) == 0 || r.Intn(3) == 0 {
		return []api.Instr{x}
	}
	return []api.Instr{x, {Op: api.Load, R: v(), S: x.Rets[0]}, {Op: api.Print, S: v()}}
}

func anyArgs(r *rand.Rand, p api.Program) []api.Value {
	var l []api.Value
	for range p.Funcs[0].Params {
		l = append(l, []api.Value{{}, {Kind: api.Num}, {Kind: api.Num, N: edges[r.Intn(len(edges))]}}[r.Intn(3)])
	}
	return l
}

func TestAnyRuns(t *testing.T) {
	ended, steps, prints, dangled, kept := map[int]int{}, 0, 0, 0, 0
	for seed := range 6000 {
		r := rand.New(rand.NewSource(int64(seed)))
		p := anyRun(r)
		h := placement(t, p, 1+r.Intn(4), anyScript(r, 9)...)
		args := anyArgs(r, p)
		tr := sound(t, p, h, 400, args...)
		sound(t, p, h, r.Intn(60), args...)
		sound(t, p, h, 0, args...)
		ended[tr.End]++
		steps += tr.Steps
		prints += len(tr.Prints)
		if bad, _ := run.Run(p, inFrame(p), 400, args...); bad.End == api.Dangle {
			dangled++
		}
		if slices.Contains(slices.Concat(h.Vars...), false) && tr.End == api.Done {
			kept++
		}
	}
	if ended[api.Done] < 500 || ended[api.Fuel] < 100 || ended[api.Nils] < 500 || steps < 60000 || prints < 3000 || dangled < 300 || kept < 300 {
		t.Errorf("the runs are too much alike: ends %v, %d steps, %d prints, %d would dangle, %d are done with cells in the frame", ended, steps, prints, dangled, kept)
	}
}

// Programs by chance that were not made to run run as well.
func TestAnyProgramsRun(t *testing.T) {
	for seed := range 2000 {
		r := rand.New(rand.NewSource(int64(seed)))
		p := anyProgram(r, 6, 12)
		sound(t, p, placement(t, p, 2, anyScript(r, 9)...), 200, anyArgs(r, p)...)
	}
}

// All callees of three instructions out of those that move a pointer: what comes back and what lies in the global is followed as far as it goes.
func TestAllShortCallees(t *testing.T) {
	two := func(do func(a, b int) api.Instr) []api.Instr {
		return []api.Instr{do(0, 1), do(1, 0), do(0, 0), do(1, 1)}
	}
	moves := slices.Concat(
		two(func(a, b int) api.Instr { return api.Instr{Op: api.Addr, R: a, S: b} }),
		two(func(a, b int) api.Instr { return api.Instr{Op: api.Load, R: a, S: b} }),
		two(func(a, b int) api.Instr { return api.Instr{Op: api.Store, R: a, S: b} }),
		[]api.Instr{{Op: api.Copy, R: 1}, {Op: api.Copy, S: 1}, {Op: api.New, R: 1, N: 1}, {Op: api.New, N: 1}, {Op: api.Set}, {Op: api.Set, S: 1}, {Op: api.Get}, {Op: api.Get, R: 1}},
	)
	first := of(t, fn(0, 1, 4, "v0 = new 1;v1 = &v0;v0.0 = v1;v1.0 = v0;v2 = f1(v1);g1 = v2;v3 = g0;if v3 jump 9;jump 10;v3 = v3.0;v2 = v2.0;print v2;v2 = v2.0;print v2;v3 = v2.0;return v3"), fn(1, 1, 2, "return v0")).Funcs[0]
	dangled, done := 0, 0
	allScripts(3, len(moves), func(which []int) {
		f := api.Func{Params: 1, Results: 1, Vars: 2, Code: []api.Instr{moves[which[0]], moves[which[1]], moves[which[2]], ret(1)}}
		p := api.Program{Globals: 2, Funcs: []api.Func{first, f}}
		if code.Check(p) != api.OK {
			t.Fatal("no program")
		}
		if tr := sound(t, p, placement(t, p, 1), 100); tr.End == api.Done {
			done++
		}
		if bad, _ := run.Run(p, inFrame(p), 100); bad.End == api.Dangle {
			dangled++
		}
	})
	if dangled < 500 || done < 500 {
		t.Errorf("the runs are too much alike: %d would dangle, %d are done", dangled, done)
	}
}

// A site that is on the heap may be needed there: with the cell in the frame the run of example 2 of the whole dangles.
func TestNeededOnTheHeap(t *testing.T) {
	p := of(t, fn(0, 0, 2, "v0 = f1();v1 = v0.0;return"), fn(0, 1, 2, "v0 = int 5;v1 = &v0;return v1"))
	h := placement(t, p, 2, 1, 0)
	if tr := sound(t, p, h, 100); tr.End != api.Done || tr.Steps != 6 {
		t.Errorf("W3: example 2: %+v", tr)
	}
	h.Vars[1][0] = false
	if tr, _ := run.Run(p, h, 100); tr.End != api.Dangle {
		t.Errorf("W3: example 2, all in the frame: %+v", tr)
	}
}
