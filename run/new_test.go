package run_test

import (
	"math"
	"slices"
	"testing"

	"fugue/api"
	"fugue/run"
)

// refused: New and Run answer this error, and nothing else.
func refused(t *testing.T, what string, p api.Program, h api.Result, want api.Errno, args ...api.Value) {
	t.Helper()
	if m, e := run.New(p, h, args...); m != nil || e != want {
		t.Errorf("P4.1 New, %s: %v, %d; want %d", what, m, e, want)
	}
	for _, fuel := range []int{-1, 0, 1, 100} {
		if tr, e := run.Run(p, h, fuel, args...); !nothing(tr) || e != want {
			t.Errorf("P4.5 Run, %s: %+v, %d; want %d", what, tr, e, want)
		}
	}
}

func two(t *testing.T) api.Program {
	return program(t, "globals 3", "func params 2 results 0 vars 3", "f1()", "return", "func params 0 results 0 vars 1", "v0 = new 2", "jump 0")
}

func TestNewOfProgramsThatAreNotRight(t *testing.T) {
	for _, c := range []struct {
		what  string
		wrong func(p *api.Program)
		want  api.Errno
	}{
		{"no function", func(p *api.Program) { p.Funcs = nil }, api.ErrHead},
		{"too many globals", func(p *api.Program) { p.Globals = 17 }, api.ErrGlobal},
		{"globals below 0", func(p *api.Program) { p.Globals = -1 }, api.ErrGlobal},
		{"no code", func(p *api.Program) { p.Funcs[1].Code = nil }, api.ErrEnd},
		{"an operation that there is not", func(p *api.Program) { p.Funcs[1].Code[0].Op = 18 }, api.ErrOp},
		{"no operation", func(p *api.Program) { p.Funcs[1].Code[0].Op = 0 }, api.ErrOp},
		{"a field that is not used", func(p *api.Program) { p.Funcs[0].Code[0].T = 1 }, api.ErrArg},
		{"a jump too far", func(p *api.Program) { p.Funcs[1].Code[1].N = 2 }, api.ErrJump},
		{"a variable that there is not", func(p *api.Program) { p.Funcs[1].Code[0].R = 1 }, api.ErrVar},
		{"a function that there is not", func(p *api.Program) { p.Funcs[0].Code[0].N = 2 }, api.ErrFunc},
		{"too many args of a call", func(p *api.Program) { p.Funcs[0].Code[0].Args = []int{0} }, api.ErrArity},
		{"too many fields", func(p *api.Program) { p.Funcs[1].Code[0].N = 9 }, api.ErrField},
		{"a function that runs off", func(p *api.Program) { p.Funcs[1].Code = p.Funcs[1].Code[:1] }, api.ErrEnd},
	} {
		p := two(t)
		h := onHeap(p)
		c.wrong(&p)
		refused(t, c.what, p, h, c.want, num(1), num(2))
		refused(t, c.what+" and a placement that does not fit", p, api.Result{}, c.want, num(1), num(2))
		refused(t, c.what+" and args that are not right", p, h, c.want, ptr(1))
		refused(t, c.what+" and nothing right", p, api.Result{}, c.want, ptr(1), null, null)
	}
}

func TestNewOfPlacementsThatDoNotFit(t *testing.T) {
	p := two(t)
	for _, c := range []struct {
		what  string
		wrong func(h *api.Result)
	}{
		{"none", func(h *api.Result) { *h = api.Result{} }},
		{"no Vars", func(h *api.Result) { h.Vars = nil }},
		{"no Code", func(h *api.Result) { h.Code = nil }},
		{"Vars of a function too few", func(h *api.Result) { h.Vars = h.Vars[:1] }},
		{"Code of a function too few", func(h *api.Result) { h.Code = h.Code[:1] }},
		{"Vars of a function too many", func(h *api.Result) { h.Vars = append(h.Vars, nil) }},
		{"Code of a function too many", func(h *api.Result) { h.Code = append(h.Code, nil) }},
		{"a variable too few, of the first", func(h *api.Result) { h.Vars[0] = h.Vars[0][1:] }},
		{"a variable too many, of the first", func(h *api.Result) { h.Vars[0] = append(h.Vars[0], true) }},
		{"a variable too few, of the last", func(h *api.Result) { h.Vars[1] = nil }},
		{"a variable too many, of the last", func(h *api.Result) { h.Vars[1] = append(h.Vars[1], false) }},
		{"an instruction too few, of the first", func(h *api.Result) { h.Code[0] = h.Code[0][1:] }},
		{"an instruction too many, of the first", func(h *api.Result) { h.Code[0] = append(h.Code[0], true) }},
		{"an instruction too few, of the last", func(h *api.Result) { h.Code[1] = h.Code[1][:1] }},
		{"an instruction too many, of the last", func(h *api.Result) { h.Code[1] = append(h.Code[1], false) }},
		{"the functions' lists changed for each other", func(h *api.Result) { h.Vars[0], h.Vars[1] = h.Vars[1], h.Vars[0] }},
		{"Vars and Code changed for each other", func(h *api.Result) { h.Vars, h.Code = h.Code, h.Vars }},
	} {
		h := onHeap(p)
		c.wrong(&h)
		refused(t, c.what, p, h, api.ErrArg, num(1), num(2))
		refused(t, c.what+", and args that are not right", p, h, api.ErrArg, ptr(1))
	}
}

func TestSumsAreNotLookedAt(t *testing.T) {
	p := two(t)
	h := inFrame(p)
	for _, sums := range [][]api.Summary{nil, {}, {{}}, make([]api.Summary, 5), {{Heap: []int{-7, 99}, Result: [][]int{nil, {1}}}, {}}} {
		h.Sums = sums
		if tr, e := run.Run(p, h, 7, num(1), null); e != api.OK || tr.Steps != 7 {
			t.Errorf("P4.1 with %d Sums: %+v, %d", len(sums), tr, e)
		}
	}
}

func TestNewOfArgs(t *testing.T) {
	p := two(t)
	for _, args := range [][]api.Value{
		nil, {}, {num(1)}, {num(1), num(2), num(3)}, {null}, {null, null, null},
		{ptr(1), num(2)}, {num(1), ptr(2)}, {ptr(0), num(2)}, {num(1), some},
		{{Kind: api.Nil, N: 1}, num(2)}, {num(1), {Kind: api.Nil, N: 1}}, {num(1), {Kind: api.Nil, N: -1}},
		{{Kind: 3}, num(2)}, {num(1), {Kind: 3, N: 3}}, {{Kind: -1}, num(2)}, {num(1), {Kind: -1}},
		{{Kind: math.MinInt}, null}, {null, {Kind: math.MaxInt}},
	} {
		refused(t, "args", p, onHeap(p), api.ErrArg, args...)
		refused(t, "args", p, inFrame(p), api.ErrArg, args...)
	}
	for _, args := range [][]api.Value{
		{null, null}, {num(0), num(0)}, {null, num(1)}, {num(math.MinInt), null}, {num(-1), num(math.MaxInt)},
	} {
		m := begun(t, p, inFrame(p), args...)
		for v, want := range []api.Value{args[0], args[1], null} {
			if x, e := m.Memory().Load(ptr(v+1), 0); x != want || e != api.OK {
				t.Errorf("P4.1 args %v: the variable %d is %v, %d; want %v", args, v, x, e, want)
			}
		}
	}
	refused(t, "an arg of a function without parameters", body(t), onHeap(body(t)), api.ErrArg, null)
}

func TestNewHasDoneNothing(t *testing.T) {
	p := two(t)
	for _, h := range []api.Result{onHeap(p), inFrame(p)} {
		s := look(begun(t, p, h, num(1), num(2)))
		if !sameTrace(s.trace, api.Trace{End: api.Fuel}) {
			t.Errorf("P4.1: the trace of a new run is %+v", s.trace)
		}
		if want := []api.Value{null, null, null, ptr(1), ptr(2), ptr(3)}; !slices.Equal(s.roots, want) || !slices.Equal(s.live, []int{1, 2, 3}) {
			t.Errorf("P4.1: a new run has the roots %v and the cells %v", s.roots, s.live)
		}
	}
	most := program(t, "globals 16", "func params 8 results 0 vars 255", "return")
	args := []api.Value{num(1), null, num(3), num(4), null, num(6), num(7), num(8)}
	if s := look(begun(t, most, inFrame(most), args...)); len(s.roots) != 16+255 || len(s.live) != 255 || s.fields[7*2*api.MaxFields] != num(8) {
		t.Errorf("P4.1: a run with the most globals, variables and parameters: %v", s.roots)
	}
	least := program(t, "globals 0", "func params 0 results 0 vars 0", "return")
	if s := look(begun(t, least, api.Result{Vars: make([][]bool, 1), Code: [][]bool{{true}}})); len(s.roots) != 0 || len(s.live) != 0 {
		t.Errorf("P4.1: the least run has %v, %v", s.roots, s.live)
	}
}
