package run_test

import (
	"math/rand"
	"runtime"
	"testing"

	"fugue/api"
	"fugue/run"
)

// chain: n functions, each of which calls the next one and gives back 1 more than it got.
func chain(n int) api.Program {
	p := api.Program{}
	for i := range n {
		code := []api.Instr{{Op: api.Int, R: 1, N: 1}, {Op: api.Add, R: 0, S: 0, T: 1}}
		if i+1 < n {
			code = append(code, api.Instr{Op: api.Call, N: i + 1, Args: []int{0}, Rets: []int{0}})
		}
		code = append(code, api.Instr{Op: api.Return, Args: []int{0}})
		p.Funcs = append(p.Funcs, api.Func{Params: 1, Results: 1, Vars: 2, Code: code})
	}
	return p
}

func TestAChainOfAllFunctions(t *testing.T) {
	const n = api.MaxFuncs
	p := chain(n)
	for _, h := range []api.Result{inFrame(p), run.AllHeap(p)} {
		tr, e := run.Run(p, h, 1<<30, num(0))
		if e != api.OK || !sameTrace(tr, api.Trace{Results: []api.Value{num(n)}, Steps: 4*n - 1}) {
			t.Errorf("R1: a chain of %d functions: %+v, %d", n, tr, e)
		}
	}
}

func TestADeepRing(t *testing.T) {
	p := program(t, "func params 1 results 1 vars 3", "if v0 jump 2", "return v0", "v1 = int -1", "v1 = v0 + v1", "v2 = f0(v1)", "v1 = int 2", "v2 = v2 + v1", "return v2")
	const deep = 300000
	tr, e := run.Run(p, inFrame(p), 1<<30, num(deep))
	if e != api.OK || !sameTrace(tr, api.Trace{Results: []api.Value{num(2 * deep)}, Steps: 7*deep + 2}) {
		t.Errorf("R1: calls %d deep: %+v, %d", deep, tr, e)
	}
	endless := program(t, "func params 0 results 0 vars 1", "f0()", "return")
	m := begun(t, endless, inFrame(endless))
	steps(t, m, deep)
	if got := len(m.Roots()); got != 4+deep+1 {
		t.Errorf("P4.4: %d calls deep there are %d roots", deep, got)
	}
}

// What is gone costs no memory: calls that come and go leave nothing.
func TestCallsLeaveNothing(t *testing.T) {
	p := program(t, "func params 0 results 0 vars 0", "f1()", "jump 0", "func params 0 results 0 vars 200", "v0 = new 8", "return")
	m := begun(t, p, inFrame(p))
	room := func() uint64 {
		var s runtime.MemStats
		runtime.GC()
		runtime.ReadMemStats(&s)
		return s.HeapAlloc
	}
	steps(t, m, 4*1000)
	was := room()
	steps(t, m, 4*5000)
	if now := room(); now > was+1<<20 {
		t.Errorf("calls that are over keep memory: %d bytes, then %d", was, now)
	}
	if live := m.Memory().Live(); len(live) != 0 {
		t.Errorf("P4.2: %d cells are there in a frame without any", len(live))
	}
}

// meddle does something to the memory of a run that nobody should.
func meddle(r *rand.Rand, m *run.Machine) {
	mem := m.Memory()
	live := mem.Live()
	switch r.Intn(6) {
	case 0:
		mem.Pop()
	case 1:
		mem.Push()
	case 2:
		mem.Make(1+r.Intn(3), r.Intn(2) == 0)
	case 3:
		mem.Drop(live...)
	case 4:
		if len(live) > 0 {
			mem.Drop(live[r.Intn(len(live))])
		}
	case 5:
		for mem.Pop() == api.OK {
		}
	}
}

// Whatever is done to the memory of a run, its calls end and don't panic.
func TestMemoryThatOthersChange(t *testing.T) {
	for seed := range 1500 {
		r := rand.New(rand.NewSource(int64(seed)))
		p := anyProgram(r)
		m := begun(t, p, anywhere(r, p), anyArgs(r, p)...)
		often := 1 + r.Intn(10)
		for n := range 60 {
			if r.Intn(often) == 0 {
				meddle(r, m)
			}
			more := m.Step()
			tr := m.Trace()
			m.Roots()
			if more != (tr.End == api.Fuel) || more && tr.Steps != n+1 {
				t.Fatalf("R1: seed %d: step %d answers %v: %+v", seed, n+1, more, tr)
			}
			if !more {
				break
			}
		}
	}
}
