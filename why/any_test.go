package why_test

import (
	"math/rand"

	"fugue/api"
)

// kind: what programs by chance are like.
type kind struct {
	funcs, code, vars int // at most
	deep              bool
}

// kinds: in deep ones a variable gets what it has from those behind it, and few things lead out, so that it is a long way to the heap.
var kinds = []kind{{1, 8, 4, false}, {4, 14, 7, false}, {7, 20, 7, false}, {1, 16, 9, true}, {3, 20, 9, true}, {5, 24, 12, true}, {9, 20, 8, true}}

// maker: of one function of a program whose heads are there.
type maker struct {
	r      *rand.Rand
	p      api.Program
	f      api.Func
	length int
	deep   bool
}

// pair: a variable that is laid into, and one from which it comes.
func (m *maker) pair() (int, int) {
	v := m.r.Intn(m.f.Vars)
	if !m.deep || m.r.Intn(12) == 0 {
		return v, m.r.Intn(m.f.Vars)
	}
	return v, min(v+1+m.r.Intn(2), m.f.Vars-1)
}

// near: so many variables, in a deep one from some place on.
func (m *maker) near(many, from int) []int {
	if !m.deep {
		return some(m.r, many, m.f.Vars)
	}
	var l []int
	for range many {
		l = append(l, min(from+m.r.Intn(2), m.f.Vars-1))
	}
	return l
}

func (m *maker) ret() api.Instr { return ret(m.near(m.f.Results, 0)...) }

func (m *maker) call() api.Instr {
	n := m.r.Intn(len(m.p.Funcs))
	g := m.p.Funcs[n]
	from, to := m.pair()
	return call(n, m.near(g.Params, to), m.near(g.Results, from))
}

// op: in a deep one mostly what goes on from variable to variable.
func (m *maker) op() int {
	ops := []int{api.Copy, api.Copy, api.Addr, api.Addr, api.New, api.Load, api.Load, api.Store, api.Set, api.Call, api.Call, api.Call, api.Call, api.Return, api.If, api.Jump, api.Add, api.Get, api.Null, api.Int}
	if m.deep && m.r.Intn(15) > 0 {
		ops = []int{api.Copy, api.Addr, api.Addr, api.Addr, api.New, api.Load, api.Load, api.Call, api.Call}
	}
	return ops[m.r.Intn(len(ops))]
}

func (m *maker) instr() api.Instr {
	op := m.op()
	to, from := m.pair()
	switch op {
	case api.Copy, api.Addr:
		return api.Instr{Op: op, R: to, S: from}
	case api.New:
		return api.Instr{Op: op, R: to, N: 1 + m.r.Intn(api.MaxFields)}
	case api.Load, api.Store:
		return api.Instr{Op: op, R: to, S: from, N: m.r.Intn(api.MaxFields)}
	case api.Set:
		return api.Instr{Op: op, S: to, N: m.r.Intn(m.p.Globals)}
	case api.Get:
		return api.Instr{Op: op, R: to, N: m.r.Intn(m.p.Globals)}
	case api.Call:
		return m.call()
	case api.If:
		return api.Instr{Op: op, S: to, N: m.r.Intn(m.length)}
	case api.Jump:
		return api.Instr{Op: op, N: m.r.Intn(m.length)}
	case api.Add:
		return api.Instr{Op: op, R: to, S: from, T: to}
	case api.Int, api.Null:
		return api.Instr{Op: op, R: to}
	}
	return m.ret()
}

// code: in a deep one the last Return may be missing too.
func (m *maker) code() []api.Instr {
	var l []api.Instr
	for range m.length - 1 {
		l = append(l, m.instr())
	}
	if m.deep && m.r.Intn(3) == 0 {
		return append(l, api.Instr{Op: api.Jump, N: m.r.Intn(m.length)})
	}
	return append(l, m.ret())
}

func anyProgram(r *rand.Rand, a kind) api.Program {
	p := api.Program{Globals: 1 + r.Intn(api.MaxGlobals)}
	for range 1 + r.Intn(a.funcs) {
		vars := 1 + r.Intn(a.vars)
		p.Funcs = append(p.Funcs, api.Func{Params: r.Intn(min(vars, 3) + 1), Results: r.Intn(4), Vars: vars})
	}
	for i, f := range p.Funcs {
		m := maker{r, p, f, 1 + r.Intn(a.code), a.deep}
		p.Funcs[i].Code = m.code()
	}
	return p
}
