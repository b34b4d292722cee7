package gc_test

import (
	"slices"
	"testing"

	"fugue/api"
)

func pair(t *testing.T) api.Program {
	return with(t, 3, fn(2, 0, 3, "f1();return"), fn(0, 0, 1, "v0 = new 2;jump 0"))
}

func TestWrongPrograms(t *testing.T) {
	for _, c := range []struct {
		what  string
		wrong func(p *api.Program)
		want  api.Errno
	}{
		{"no function", func(p *api.Program) { p.Funcs = nil }, api.ErrHead},
		{"too many globals", func(p *api.Program) { p.Globals = 17 }, api.ErrGlobal},
		{"globals below 0", func(p *api.Program) { p.Globals = -1 }, api.ErrGlobal},
		{"too many variables", func(p *api.Program) { p.Funcs[0].Vars = 256 }, api.ErrHead},
		{"no code", func(p *api.Program) { p.Funcs[1].Code = nil }, api.ErrEnd},
		{"no such operation", func(p *api.Program) { p.Funcs[1].Code[0].Op = 18 }, api.ErrOp},
		{"a field that is not used", func(p *api.Program) { p.Funcs[0].Code[0].T = 1 }, api.ErrArg},
		{"a jump too far", func(p *api.Program) { p.Funcs[1].Code[1].N = 2 }, api.ErrJump},
		{"no such variable", func(p *api.Program) { p.Funcs[1].Code[0].R = 1 }, api.ErrVar},
		{"no such function", func(p *api.Program) { p.Funcs[0].Code[0].N = 2 }, api.ErrFunc},
		{"too many args of a call", func(p *api.Program) { p.Funcs[0].Code[0].Args = []int{0} }, api.ErrArity},
		{"too many fields", func(p *api.Program) { p.Funcs[1].Code[0].N = 9 }, api.ErrField},
	} {
		p := pair(t)
		h := onHeap(p)
		c.wrong(&p)
		refuses(t, c.what, p, h, c.want, num(1), num(2))
		refuses(t, c.what+" and no placement", p, api.Result{}, c.want, num(1), num(2))
		refuses(t, c.what+" and wrong args", p, h, c.want, ptr(1))
	}
	refuses(t, "nothing", api.Program{}, api.Result{}, api.ErrHead)
}

func TestPlacementsThatDoNotFit(t *testing.T) {
	p := pair(t)
	for _, c := range []struct {
		what  string
		wrong func(h *api.Result)
	}{
		{"none", func(h *api.Result) { *h = api.Result{} }},
		{"no Vars", func(h *api.Result) { h.Vars = nil }},
		{"no Code", func(h *api.Result) { h.Code = nil }},
		{"Vars of a function too few", func(h *api.Result) { h.Vars = h.Vars[:1] }},
		{"Code of a function too many", func(h *api.Result) { h.Code = append(h.Code, nil) }},
		{"a variable too few", func(h *api.Result) { h.Vars[1] = nil }},
		{"a variable too many", func(h *api.Result) { h.Vars[0] = append(h.Vars[0], true) }},
		{"an instruction too few", func(h *api.Result) { h.Code[0] = h.Code[0][:1] }},
		{"an instruction too many", func(h *api.Result) { h.Code[1] = append(h.Code[1], false) }},
	} {
		for _, h := range []api.Result{inFrame(p), onHeap(p)} {
			c.wrong(&h)
			refuses(t, c.what, p, h, api.ErrArg, num(1), null)
		}
	}
}

func TestArgsThatDoNotFit(t *testing.T) {
	p := pair(t)
	for _, args := range [][]api.Value{nil, {num(1)}, {num(1), num(2), num(3)}, {num(1), ptr(1)}, {ptr(0), null}, {{N: 1}, null}, {null, {Kind: 3}}, {null, {Kind: -1}}} {
		refuses(t, "wrong args", p, inFrame(p), api.ErrArg, args...)
		refuses(t, "wrong args", p, onHeap(p), api.ErrArg, args...)
	}
	none := waste(t)
	refuses(t, "an arg too many", none, onHeap(none), api.ErrArg, null)
	for _, args := range [][]api.Value{{null, null}, {num(0), num(1)}, {num(-1 << 63), null}} {
		runs(t, "right args", p, inFrame(p), 9, 1, 3, args...)
	}
	runs(t, "an empty list of args", none, onHeap(none), 9, 1, 4, slices.Clone([]api.Value{})...)
}
