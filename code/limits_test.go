package code_test

import (
	"fmt"
	"testing"

	"fugue/api"
	"fugue/code"
)

func one(f api.Func) api.Program { return api.Program{Funcs: []api.Func{f}} }

// rest: Nulls, and a Return.
func rest(length int) []api.Instr {
	var c []api.Instr
	for range length - 1 {
		c = append(c, api.Instr{Op: api.Null})
	}
	return append(c, ret())
}

func news(n int) []api.Instr {
	var c []api.Instr
	for range n {
		c = append(c, api.Instr{Op: api.New, N: 1})
	}
	return append(c, ret())
}

func TestHeadsAtTheirBounds(t *testing.T) {
	for _, c := range []struct {
		name      string
		p         api.Program
		locations int // 0: it is one past its bound
		want      api.Errno
	}{
		{"16 globals", api.Program{Globals: 16, Funcs: []api.Func{{Code: rest(1)}}}, 1, 0},
		{"17 globals", api.Program{Globals: 17, Funcs: []api.Func{{Code: rest(1)}}}, 0, api.ErrGlobal},
		{"8 parameters", one(api.Func{Params: 8, Vars: 8, Code: rest(1)}), 9, 0},
		{"9 parameters", one(api.Func{Params: 9, Vars: 9, Code: rest(1)}), 0, api.ErrHead},
		{"a parameter without a variable", one(api.Func{Params: 1, Code: rest(1)}), 0, api.ErrHead},
		{"4 results", one(api.Func{Results: 4, Vars: 1, Code: []api.Instr{ret(0, 0, 0, 0)}}), 2, 0},
		{"5 results", one(api.Func{Results: 5, Vars: 1, Code: []api.Instr{ret(0, 0, 0, 0, 0)}}), 0, api.ErrHead},
		{"255 variables", one(api.Func{Vars: 255, Code: rest(1)}), 256, 0},
		{"256 variables", one(api.Func{Vars: 256, Code: rest(1)}), 0, api.ErrHead},
		{"4096 instructions", one(api.Func{Vars: 1, Code: rest(4096)}), 2, 0},
		{"4097 instructions", one(api.Func{Vars: 1, Code: rest(4097)}), 0, api.ErrHead},
		{"one instruction", one(api.Func{Code: rest(1)}), 1, 0},
		{"no instruction", one(api.Func{}), 0, api.ErrEnd},
	} {
		if c.locations > 0 {
			right(t, c.name, c.p, lay(c.p), c.locations)
		} else {
			wrong(t, c.name, c.p, c.want)
		}
	}
}

func TestNumbersAtTheirBounds(t *testing.T) {
	for _, c := range []struct {
		name string
		x    api.Instr
		past func(x *api.Instr)
		want api.Errno
	}{
		{"variable 254", api.Instr{Op: api.Null, R: 254}, func(x *api.Instr) { x.R++ }, api.ErrVar},
		{"a New of 8", api.Instr{Op: api.New, N: 8}, func(x *api.Instr) { x.N++ }, api.ErrField},
		{"a New of 1", api.Instr{Op: api.New, N: 1}, func(x *api.Instr) { x.N-- }, api.ErrField},
		{"a Load of 7", api.Instr{Op: api.Load, N: 7}, func(x *api.Instr) { x.N++ }, api.ErrField},
		{"a Store of 7", api.Instr{Op: api.Store, N: 7}, func(x *api.Instr) { x.N++ }, api.ErrField},
		{"a Store of 0", api.Instr{Op: api.Store, N: 0}, func(x *api.Instr) { x.N-- }, api.ErrField},
		{"the global 15", api.Instr{Op: api.Get, N: 15}, func(x *api.Instr) { x.N++ }, api.ErrGlobal},
		{"the global 0", api.Instr{Op: api.Set, N: 0}, func(x *api.Instr) { x.N-- }, api.ErrGlobal},
		{"the function 0", api.Instr{Op: api.Call, N: 0}, func(x *api.Instr) { x.N++ }, api.ErrFunc},
		{"a Jump to the last", api.Instr{Op: api.Jump, N: 4095}, func(x *api.Instr) { x.N++ }, api.ErrJump},
		{"an If to the first", api.Instr{Op: api.If, N: 0}, func(x *api.Instr) { x.N-- }, api.ErrJump},
	} {
		p := one(api.Func{Vars: 255, Code: rest(4096)})
		p.Globals = 16
		p.Funcs[0].Code[4000] = c.x
		more := 0
		if c.x.Op == api.New {
			more = 1
		}
		right(t, c.name, p, lay(p), 256+more)
		c.past(&p.Funcs[0].Code[4000])
		wrong(t, c.name+", one past it", p, c.want)
	}
	p := one(api.Func{Code: rest(1)})
	p.Funcs[0].Code = []api.Instr{{Op: api.Null}, ret()}
	wrong(t, "no variable at all", p, api.ErrVar)
	p.Funcs[0] = api.Func{Vars: 1, Code: []api.Instr{{Op: api.Get}, ret()}}
	wrong(t, "no global at all", p, api.ErrGlobal)
}

// TestManyFunctions: 65,535 in a chain, and one more.
func TestManyFunctions(t *testing.T) {
	p := api.Program{}
	for i := range api.MaxFuncs {
		c := []api.Instr{{Op: api.Call, N: min(i+1, api.MaxFuncs-1)}, ret()}
		p.Funcs = append(p.Funcs, api.Func{Code: c})
	}
	right(t, "a chain", p, lay(p), 1)
	p.Funcs[0].Code[0].N = api.MaxFuncs
	wrong(t, "a call of one more", p, api.ErrFunc)
	refused(t, "a call of one more", lay(p), api.ErrFunc, 9+5*api.MaxFuncs+1)
	p.Funcs = append(p.Funcs, api.Func{Code: []api.Instr{ret()}})
	wrong(t, "one function more", p, api.ErrHead)
}

// full: functions of 255 variables each, 15 locations less than may be.
func full() api.Program {
	p := api.Program{}
	for range 4112 {
		p.Funcs = append(p.Funcs, api.Func{Vars: 255, Code: []api.Instr{ret()}})
	}
	return p
}

func TestLocationsByVariables(t *testing.T) {
	p := full()
	p.Funcs = append(p.Funcs, api.Func{Vars: 15, Code: []api.Instr{ret()}})
	right(t, "as many variables as may be", p, lay(p), api.MaxLocs)
	p.Funcs = append(p.Funcs, api.Func{Code: []api.Instr{ret()}})
	right(t, "and a function without any", p, lay(p), api.MaxLocs)
	p.Funcs[4113].Vars = 1
	wrong(t, "a variable more", p, api.ErrTooLarge)
	refused(t, "a variable more", lay(p), api.ErrTooLarge, 9+5*4113)
	refused(t, "a variable more, cut behind the head", lay(p)[:9+5*4114], api.ErrTooLarge, 9+5*4113)
	refused(t, "a variable more, cut in the head", lay(p)[:9+5*4114-1], api.ErrShort, 9+5*4114-1)
	p.Funcs[4113].Code = nil
	wrong(t, "a variable more, without code", p, api.ErrEnd)
	p.Funcs[4113].Params = 2
	wrong(t, "a variable more, in a head that may not be", p, api.ErrHead)
	p.Funcs[4113] = api.Func{Vars: 1, Code: []api.Instr{ret()}}
	p.Funcs[0].Code = []api.Instr{{Op: 18}}
	wrong(t, "a variable more, ahead of all code", p, api.ErrTooLarge)
}

func TestLocationsByNews(t *testing.T) {
	p := full()
	p.Funcs = append(p.Funcs, api.Func{Vars: 1, Code: news(14)})
	right(t, "as many News as may be", p, lay(p), api.MaxLocs)
	p.Funcs[4112].Code = news(15)
	at := len(lay(p)) - 2 - 3
	wrong(t, "a New more", p, api.ErrTooLarge)
	refused(t, "a New more", lay(p), api.ErrTooLarge, at)
	refused(t, "a New more, only its operation", lay(p)[:at+1], api.ErrTooLarge, at)
	p.Funcs[4112].Code[14].R = 9
	wrong(t, "a New more, with a wrong variable", p, api.ErrTooLarge)
	p.Funcs[4112].Code[14] = api.Instr{Op: api.New, S: 1, N: 1}
	wrong(t, "a New more, with another field", p, api.ErrArg)
	p.Funcs[4112].Code = news(15)[:15]
	wrong(t, "a New more, at the end", p, api.ErrEnd)
	refused(t, "a New more, at the end", lay(p), api.ErrEnd, len(lay(p))-3)
}

// TestNewsCountAllVariables: a New in the first function finds the variables of all functions counted.
func TestNewsCountAllVariables(t *testing.T) {
	p := full()
	p.Funcs = append(p.Funcs, api.Func{Vars: 14, Code: []api.Instr{ret()}})
	for n := range 4 {
		p.Funcs[0].Code = news(n)
		if n <= 1 {
			right(t, fmt.Sprintf("%d News", n), p, lay(p), api.MaxLocs-1+n)
			continue
		}
		wrong(t, fmt.Sprintf("%d News", n), p, api.ErrTooLarge)
		refused(t, fmt.Sprintf("%d News", n), lay(p), api.ErrTooLarge, 9+5*4113+3)
	}
}

// TestFewBytesThatPromiseMuch: heads that tell of much code that is not there.
func TestFewBytesThatPromiseMuch(t *testing.T) {
	b := append([]byte("fugue\x01\x00"), 0xff, 0xff)
	for range api.MaxFuncs {
		b = append(b, 0, 0, 0, 0, 16)
	}
	for range 4 {
		b = append(b, 15, 0)
		refused(t, "much code", b, api.ErrShort, len(b))
	}
	if _, e, _ := code.Decode(b[:9]); e != api.ErrShort {
		t.Errorf("P1.3: no heads: %d", e)
	}
}
