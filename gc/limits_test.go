package gc_test

import (
	"math/rand"
	"runtime"
	"slices"
	"testing"

	"fugue/api"
	"fugue/gc"
	"fugue/run"
)

// from: so many numbers, rising.
func from(first, n int) []int {
	l := make([]int, n)
	for i := range l {
		l[i] = first + i
	}
	return l
}

// droppedOf: what a Collect drops.
func droppedOf(t *testing.T, m *run.Machine) int {
	t.Helper()
	n, e := gc.Collect(m)
	if e != api.OK {
		t.Fatalf("P22.2: error %d", e)
	}
	return n
}

func TestALongChain(t *testing.T) {
	p := of(t, fn(0, 0, 3, "v0 = new 8;v0.7 = v1;v1 = v0;if v2 jump 5;jump 0;v0 = null;v1 = null;jump 7"))
	const long = 500000
	for _, h := range []api.Result{inFrame(p), onHeap(p)} {
		m := begun(t, p, h)
		steps(t, m, 5*long)
		if got := gc.Reach(m); !slices.Equal(got, from(1, 3+long)) {
			t.Fatalf("R1: of a chain of %d cells %d are reached", long, len(got))
		}
		if n := droppedOf(t, m); n != 0 {
			t.Fatalf("R1: of a chain of %d cells %d are dropped", long, n)
		}
		m.Memory().Store(ptr(3), 0, num(1)) // now it lets the chain go
		steps(t, m, 7)
		if n := droppedOf(t, m); n != long+1 || len(gc.Reach(m)) != 3 {
			t.Fatalf("R1: of a chain of %d cells to which nothing points %d are dropped", long+1, n)
		}
	}
}

// A ring in which all cells point to all that came before, by the one behind them, and to themselves.
func TestALongRing(t *testing.T) {
	p := of(t, fn(0, 0, 3, "v0 = new 3;v2 = v0;v1 = new 3;v1.0 = v0;v1.1 = v1;v1.2 = v2;v2.2 = v1;v0 = v1;jump 2"))
	const long = 200000
	m := begun(t, p, onHeap(p))
	steps(t, m, 2+7*long)
	if got := gc.Reach(m); !slices.Equal(got, from(1, 4+long)) {
		t.Fatalf("R1: of a ring of %d cells %d are reached", long+1, len(got))
	}
	for v := range 3 {
		m.Memory().Store(ptr(v+1), 0, null)
	}
	if n := droppedOf(t, m); n != long+1 {
		t.Fatalf("R1: of a ring of %d cells to which nothing points %d are dropped", long+1, n)
	}
}

func TestManyFrames(t *testing.T) {
	p := of(t, fn(1, 1, 3, "if v0 jump 2;return v0;v1 = new 1;v2 = int -1;v1 = v0 + v2;v2 = f0(v1);v1 = int 2;v2 = v2 + v1;return v2"))
	const deep = 100000
	want := api.Trace{Results: []api.Value{num(2 * deep)}, Steps: 8*deep + 2} // a call is five steps on the way down and three on the way up
	for _, c := range []struct {
		every   int
		dropped []int // by placement, as everywhere has them
	}{
		{5*deep + 1, []int{deep, deep, deep, deep}},        // in the deepest call: each New's cell
		{8*deep + 1, []int{1, 4 * deep, deep, 3*deep + 1}}, // ahead of the last Return: what frames did not take
		{8*deep + 2, []int{0, 0, 0, 0}},                    // at the end
		{4*deep + 1, []int{4 * deep / 5}},                  // on the way down, and at the end, where there is none
	} {
		for i, dropped := range c.dropped {
			tr, n, e := gc.Run(p, everywhere(p)[i], 1<<30, c.every, num(deep))
			if e != api.OK || !sameTrace(tr, want) {
				t.Fatalf("W11: calls %d deep: %+v, error %d, want %+v", deep, tr, e, want)
			}
			if n != dropped {
				t.Errorf("P22.3: calls %d deep, every %d, placement %d: %d dropped, want %d", deep, c.every, i, n, dropped)
			}
		}
	}
	endless := of(t, fn(0, 0, 2, "v0 = new 1;v0 = &v1;f0();return"))
	m := begun(t, endless, inFrame(endless))
	steps(t, m, 3*deep)
	if n, reached := droppedOf(t, m), gc.Reach(m); n != deep || len(reached) != 2*deep+2 {
		t.Errorf("R1: %d calls deep: %d dropped, %d reached", deep, n, len(reached))
	}
}

// A chain of all functions that there may be, each one's variable behind the address that it got.
func TestAChainOfFunctions(t *testing.T) {
	const many = api.MaxFuncs
	p := api.Program{}
	for i := range many {
		next := []api.Instr{{Op: api.New, R: 1, N: 1}, {Op: api.Addr, R: 1, S: 0}, {Op: api.Call, N: (i + 1) % many, Args: []int{1}}, {Op: api.Return}}
		p.Funcs = append(p.Funcs, api.Func{Params: 1, Vars: 2, Code: next})
	}
	tr, n, e := gc.Run(p, inFrame(p), 3*many, 3*many/2, null)
	if e != api.OK || n != many || tr.Steps != 3*many || tr.End != api.Fuel {
		t.Errorf("R1: %+v, %d dropped, error %d", tr, n, e)
	}
}

// room: how many bytes are held.
func room() uint64 {
	var s runtime.MemStats
	runtime.GC()
	runtime.ReadMemStats(&s)
	return s.HeapAlloc
}

// A run that wastes cells for ever needs no more room with a collector, wherever the cells lie.
func TestWasteCostsNoRoom(t *testing.T) {
	p := of(t, fn(0, 0, 1, "v0 = new 8;jump 0"))
	for _, h := range everywhere(p) {
		m := begun(t, p, h)
		was := room()
		for range 2000 {
			steps(t, m, 200)
			droppedOf(t, m)
		}
		if now := room(); now > was+1<<20 {
			t.Errorf("P22.2: cells that were dropped are held: %d bytes, then %d", was, now)
		}
		lives(t, "a run that wastes", m, 1, 1+200000)
	}
}

// meddle does something to the memory of a run that nobody should.
func meddle(r *rand.Rand, m *run.Machine) {
	mem := m.Memory()
	live := mem.Live()
	switch r.Intn(6) {
	case 0:
		mem.Pop()
	case 1:
		mem.Push()
	case 2:
		mem.Make(1+r.Intn(8), r.Intn(2) == 0)
	case 3:
		mem.Drop(live...)
	case 4:
		if len(live) > 0 {
			mem.Drop(live[r.Intn(len(live))])
		}
	case 5:
		for mem.Pop() == api.OK {
		}
	}
}

// Whatever others did to the memory of a run, the calls end and don't panic.
func TestMemoryThatOthersChange(t *testing.T) {
	for seed := range 1000 {
		r := rand.New(rand.NewSource(int64(seed)))
		p := anyProgram(r)
		m := begun(t, p, anywhere(r, p), anyArgs(r, p)...)
		for range 60 {
			if r.Intn(5) == 0 {
				meddle(r, m)
			}
			m.Step()
			want := plainReach(m)
			if got := gc.Reach(m); !slices.Equal(got, want) {
				t.Fatalf("P22.1: seed %d: %v, want %v", seed, got, want)
			}
			if r.Intn(3) == 0 {
				droppedOf(t, m)
				if live := m.Memory().Live(); !slices.Equal(live, want) {
					t.Fatalf("P22.2: seed %d: %v are left, want %v", seed, live, want)
				}
			}
		}
	}
	gc.Reach(new(run.Machine))
	gc.Collect(new(run.Machine))
}
