package run_test

import (
	"slices"
	"testing"

	"fugue/api"
	"fugue/run"
)

func is(t *testing.T, what string, got, want api.Errno) {
	t.Helper()
	if got != want {
		t.Errorf("P4.4 %s: %d, want %d", what, got, want)
	}
}

// What others store there the run finds, in variables, in cells and in globals.
func TestMemoryIsTheRunsOwn(t *testing.T) {
	p := program(t, "func params 0 results 0 vars 3", "v0 = new 1", "print v1", "v2 = v0.0", "print v2", "v2 = g3", "print v2", "return")
	for _, h := range []api.Result{inFrame(p), onHeap(p)} {
		m := begun(t, p, h)
		mem := m.Memory()
		steps(t, m, 1)
		if mem != m.Memory() || !slices.Equal(mem.Live(), []int{1, 2, 3, 4}) {
			t.Errorf("P4.4: Memory is another one behind a step: %v", mem.Live())
		}
		is(t, "Store into a variable", mem.Store(ptr(2), 0, num(5)), api.OK)
		is(t, "Store into a cell", mem.Store(ptr(4), 0, num(6)), api.OK)
		is(t, "SetGlobal", mem.SetGlobal(3, num(7)), api.OK)
		steps(t, m, 5)
		if tr := m.Trace(); !slices.Equal(tr.Prints, []api.Value{num(5), num(6), num(7)}) {
			t.Errorf("P4.4: the run does not find what was stored: %+v", tr)
		}
		if m.Step() || mem != m.Memory() {
			t.Error("P4.4: behind the end Memory is another one")
		}
	}
}

// Whoever drops cells drops them for the run: one that it does not come to changes nothing, another one is gone for it too.
func TestDropsAreTheRunsToo(t *testing.T) {
	p := program(t, "func params 0 results 0 vars 3", "v1 = new 1", "v0 = new 1", "v0 = null", "v2 = v1.0", "print v2", "return")
	h := onHeap(p)
	m := begun(t, p, h)
	steps(t, m, 3)
	is(t, "Drop", m.Memory().Drop(5), api.OK)
	if live := m.Memory().Live(); !slices.Equal(live, []int{1, 2, 3, 4}) {
		t.Errorf("P4.4: behind Drop %v are there", live)
	}
	for m.Step() {
	}
	if tr := m.Trace(); !sameTrace(tr, api.Trace{Prints: []api.Value{null}, Steps: 6}) {
		t.Errorf("P4.7: a Drop of a cell that the run does not come to: %+v", tr)
	}
	m = begun(t, p, h)
	steps(t, m, 3)
	is(t, "Drop", m.Memory().Drop(4), api.OK)
	if m.Step() || m.Trace().End != api.Dangle {
		t.Errorf("P4.4: a Load of a cell that was dropped: %+v", m.Trace())
	}
}

func TestRootsInTheirOrder(t *testing.T) {
	p := program(t, "globals 3", "func params 0 results 0 vars 2", "v1 = int 8", "g2 = v1", "f1()", "return",
		"func params 0 results 0 vars 1", "v0 = new 4", "g0 = v0", "f2()", "f3()", "return",
		"func params 0 results 0 vars 0", "return",
		"func params 0 results 0 vars 3", "f3()", "return")
	want := map[int][]api.Value{
		0:  {null, null, null, ptr(1), ptr(2)},
		1:  {null, null, null, ptr(1), ptr(2)},
		2:  {null, null, num(8), ptr(1), ptr(2)},
		3:  {null, null, num(8), ptr(1), ptr(2), ptr(3)},
		4:  {null, null, num(8), ptr(1), ptr(2), ptr(3)},
		5:  {ptr(4), null, num(8), ptr(1), ptr(2), ptr(3)},
		6:  {ptr(4), null, num(8), ptr(1), ptr(2), ptr(3)},
		7:  {ptr(4), null, num(8), ptr(1), ptr(2), ptr(3)},
		8:  {ptr(4), null, num(8), ptr(1), ptr(2), ptr(3), ptr(5), ptr(6), ptr(7)},
		9:  {ptr(4), null, num(8), ptr(1), ptr(2), ptr(3), ptr(5), ptr(6), ptr(7), ptr(8), ptr(9), ptr(10)},
		10: {ptr(4), null, num(8), ptr(1), ptr(2), ptr(3), ptr(5), ptr(6), ptr(7), ptr(8), ptr(9), ptr(10), ptr(11), ptr(12), ptr(13)},
	}
	for _, h := range []api.Result{inFrame(p), onHeap(p)} {
		m := begun(t, p, h)
		for n := range len(want) {
			if got := m.Roots(); !slices.Equal(got, want[n]) {
				t.Errorf("P4.4 Roots behind %d steps: %v, want %v", n, got, want[n])
			}
			steps(t, m, 1)
		}
	}
}

// Globals that point to what is gone are roots still.
func TestRootsThatDangle(t *testing.T) {
	p := program(t, "globals 1", "func params 0 results 0 vars 1", "f1()", "return", "func params 0 results 0 vars 2", "v0 = &v1", "g0 = v0", "return")
	m := begun(t, p, inFrame(p))
	steps(t, m, 4)
	if got := m.Roots(); !slices.Equal(got, []api.Value{ptr(3), ptr(1)}) {
		t.Errorf("P4.4: %v", got)
	}
	if m.Step() || !slices.Equal(m.Roots(), []api.Value{ptr(3)}) {
		t.Errorf("P4.4: behind the end: %v", m.Roots())
	}
}

func TestAllHeap(t *testing.T) {
	p := program(t, "func params 1 results 0 vars 3", "v1 = new 1", "f1()", "return", "func params 0 results 0 vars 0", "jump 0", "func params 0 results 0 vars 255", "v254 = new 8", "return")
	h := run.AllHeap(p)
	if len(h.Sums) != 0 || len(h.Vars) != 3 || len(h.Code) != 3 {
		t.Fatalf("P4.6: %+v", h)
	}
	for i, f := range p.Funcs {
		if len(h.Vars[i]) != f.Vars || len(h.Code[i]) != len(f.Code) || slices.Contains(h.Vars[i], false) || slices.Contains(h.Code[i], false) {
			t.Errorf("P4.6 function %d: %v, %v", i, h.Vars[i], h.Code[i])
		}
	}
	begun(t, p, h, null)
}

func TestAllHeapOfProgramsThatAreNotRight(t *testing.T) {
	for i, wrong := range []func(p *api.Program){
		func(p *api.Program) { *p = api.Program{} },
		func(p *api.Program) { p.Globals = 17 },
		func(p *api.Program) { p.Funcs[1].Code = nil },
		func(p *api.Program) { p.Funcs[0].Vars = 256 },
		func(p *api.Program) { p.Funcs[0].Vars = -1 },
		func(p *api.Program) { p.Funcs[1].Code[1].N = 5 },
		func(p *api.Program) { p.Funcs[1].Code[1].S = 5 },
		func(p *api.Program) { p.Funcs[0].Params = 4 },
	} {
		p := two(t)
		wrong(&p)
		if h := run.AllHeap(p); len(h.Sums) != 0 || len(h.Vars) != 0 || len(h.Code) != 0 {
			t.Errorf("P4.6 wrong program %d: %+v", i, h)
		}
	}
}
