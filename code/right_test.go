package code_test

import (
	"math"
	"testing"

	"fugue/api"
	"fugue/code"
)

func TestLeastProgram(t *testing.T) {
	b := []byte{0x66, 0x75, 0x67, 0x75, 0x65, 1, 0, 1, 0, 0, 0, 0, 1, 0, 15, 0}
	right(t, "least", least(), b, 1)
}

// TestEachOperation: the bytes of an instruction of each operation, written out.
func TestEachOperation(t *testing.T) {
	for _, c := range []struct {
		x    api.Instr
		b    []byte
		more int // locations
	}{
		{api.Instr{Op: api.Int, R: 1, N: 0x0102030405060708}, []byte{1, 1, 8, 7, 6, 5, 4, 3, 2, 1}, 0},
		{api.Instr{Op: api.Int, R: 3, N: -2}, []byte{1, 3, 0xfe, 0xff, 0xff, 0xff, 0xff, 0xff, 0xff, 0xff}, 0},
		{api.Instr{Op: api.Int, N: math.MinInt64}, []byte{1, 0, 0, 0, 0, 0, 0, 0, 0, 0x80}, 0},
		{api.Instr{Op: api.Int, N: math.MaxInt64}, []byte{1, 0, 0xff, 0xff, 0xff, 0xff, 0xff, 0xff, 0xff, 0x7f}, 0},
		{api.Instr{Op: api.Copy, R: 2, S: 1}, []byte{2, 2, 1}, 0},
		{api.Instr{Op: api.Add, R: 2, S: 1, T: 3}, []byte{3, 2, 1, 3}, 0},
		{api.Instr{Op: api.Less, R: 2, S: 1, T: 3}, []byte{4, 2, 1, 3}, 0},
		{api.Instr{Op: api.Addr, R: 2, S: 1}, []byte{5, 2, 1}, 0},
		{api.Instr{Op: api.New, R: 3, N: 5}, []byte{6, 3, 5}, 1},
		{api.Instr{Op: api.Load, R: 2, S: 3, N: 7}, []byte{7, 2, 3, 7}, 0},
		{api.Instr{Op: api.Store, R: 3, S: 1, N: 4}, []byte{8, 3, 1, 4}, 0},
		{api.Instr{Op: api.Get, R: 2, N: 1}, []byte{9, 2, 1}, 0},
		{api.Instr{Op: api.Set, S: 2, N: 1}, []byte{10, 2, 1}, 0},
		{api.Instr{Op: api.Call, N: 1, Args: []int{3, 2}, Rets: []int{1}}, []byte{11, 1, 0, 2, 3, 2, 1, 1}, 0},
		{api.Instr{Op: api.Print, S: 3}, []byte{12, 3}, 0},
		{api.Instr{Op: api.Jump, N: 1}, []byte{13, 1, 0}, 0},
		{api.Instr{Op: api.If, S: 3, N: 1}, []byte{14, 3, 1, 0}, 0},
		{ret(), []byte{15, 0}, 0},
		{api.Instr{Op: api.Null, R: 2}, []byte{16, 2}, 0},
		{api.Instr{Op: api.Same, R: 2, S: 1, T: 3}, []byte{17, 2, 1, 3}, 0},
	} {
		p := api.Program{Globals: 2, Funcs: []api.Func{
			{Params: 1, Vars: 4, Code: []api.Instr{c.x, ret()}},
			{Params: 2, Results: 1, Vars: 2, Code: []api.Instr{ret(1)}},
		}}
		b := []byte{0x66, 0x75, 0x67, 0x75, 0x65, 1, 2, 2, 0, 1, 0, 4, 2, 0, 2, 1, 2, 1, 0}
		b = append(append(b, c.b...), 15, 0, 15, 1, 1)
		right(t, "operation", p, b, 7+c.more)
	}
	right(t, "all operations", every(), lay(every()), 9)
}

func TestListsWithoutElements(t *testing.T) {
	p := every()
	for i := range p.Funcs[0].Code {
		x := &p.Funcs[0].Code[i]
		if x.Op != api.Call {
			x.Args, x.Rets = []int{}, []int{}
		}
	}
	right(t, "empty lists", p, lay(every()), 9)
	p.Funcs = []api.Func{}
	wrong(t, "empty list of functions", p, api.ErrHead)
	wrong(t, "nil list of functions", api.Program{}, api.ErrHead)
	wrong(t, "empty code", api.Program{Funcs: []api.Func{{Code: []api.Instr{}}}}, api.ErrEnd)
	wrong(t, "nil code", api.Program{Funcs: []api.Func{{}}}, api.ErrEnd)
}

func TestCutAnywhere(t *testing.T) {
	for _, p := range []api.Program{least(), every()} {
		b := lay(p)
		for i := range b {
			refused(t, "cut", b[:i], api.ErrShort, i)
			refused(t, "cut, with spare room", b[:i:i], api.ErrShort, i)
		}
		for c := range 256 {
			refused(t, "a byte more", append(b[:len(b):len(b)], byte(c)), api.ErrTrail, len(b))
		}
		refused(t, "twice", append(b[:len(b):len(b)], b...), api.ErrTrail, len(b))
	}
}

func TestNoBytes(t *testing.T) {
	refused(t, "nil", nil, api.ErrShort, 0)
	refused(t, "empty", []byte{}, api.ErrShort, 0)
}

// TestUnreached: code behind a Return, a ring of calls, and calls ahead of their callee are right.
func TestUnreached(t *testing.T) {
	p := api.Program{Funcs: []api.Func{
		{Vars: 1, Code: []api.Instr{ret(), {Op: api.Call, N: 1}, {Op: api.Jump, N: 2}}},
		{Code: []api.Instr{{Op: api.Call, N: 0}, {Op: api.Call, N: 1}, {Op: api.Jump}}},
	}}
	right(t, "unreached", p, lay(p), 2)
	if code.Locations(least()) != 1 {
		t.Errorf("P1.4: the heap alone")
	}
}
