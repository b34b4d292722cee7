package cache_test

import (
	"math/rand"

	"fugue/api"
)

// kind: what programs by chance are like.
type kind struct {
	funcs, code, vars int // at most
	calls             int // of ten instructions
}

var kinds = []kind{{1, 8, 4, 3}, {5, 8, 5, 3}, {9, 6, 5, 3}, {9, 5, 5, 2}, {14, 4, 4, 3}, {6, 12, 7, 6}}

// some: so many of the numbers below n.
func some(r *rand.Rand, many, n int) []int {
	var l []int
	for range many {
		l = append(l, r.Intn(n))
	}
	return l
}

// maker: of one function of a program whose heads are there.
type maker struct {
	kind
	r      *rand.Rand
	p      api.Program
	f      api.Func
	length int
}

func (m maker) call(n int) api.Instr {
	g := m.p.Funcs[n]
	return call(n, some(m.r, g.Params, m.f.Vars), some(m.r, g.Results, m.f.Vars))
}

func (m maker) ret() api.Instr { return ret(some(m.r, m.f.Results, m.f.Vars)...) }

func (m maker) instr() api.Instr {
	if m.r.Intn(10) < m.calls {
		return m.call(m.r.Intn(len(m.p.Funcs)))
	}
	v := func() int { return m.r.Intn(m.f.Vars) }
	ops := []int{api.Copy, api.Copy, api.Addr, api.New, api.Load, api.Load, api.Store, api.Set, api.Return, api.If, api.Jump, api.Add, api.Get, api.Null, api.Int}
	switch op := ops[m.r.Intn(len(ops))]; op {
	case api.Copy, api.Addr:
		return api.Instr{Op: op, R: v(), S: v()}
	case api.New:
		return api.Instr{Op: op, R: v(), N: 1 + m.r.Intn(api.MaxFields)}
	case api.Load, api.Store:
		return api.Instr{Op: op, R: v(), S: v(), N: m.r.Intn(api.MaxFields)}
	case api.Set:
		return api.Instr{Op: op, S: v(), N: m.r.Intn(m.p.Globals)}
	case api.Get:
		return api.Instr{Op: op, R: v(), N: m.r.Intn(m.p.Globals)}
	case api.If:
		return api.Instr{Op: op, S: v(), N: m.r.Intn(m.length)}
	case api.Jump:
		return api.Instr{Op: op, N: m.r.Intn(m.length)}
	case api.Add:
		return api.Instr{Op: op, R: v(), S: v(), T: v()}
	case api.Null:
		return api.Instr{Op: op, R: v()}
	case api.Int:
		return api.Instr{Op: op, R: v(), N: int(m.r.Uint64())}
	}
	return m.ret()
}

// anyHead: few shapes, so that many functions may have one summary.
func anyHead(r *rand.Rand, a kind) api.Func {
	vars := 1 + r.Intn(a.vars)
	if r.Intn(2) == 0 {
		return api.Func{Params: 1, Results: 1, Vars: vars}
	}
	return api.Func{Params: r.Intn(min(vars, 3) + 1), Results: r.Intn(3), Vars: vars}
}

func anyFunction(r *rand.Rand, p api.Program, head api.Func, a kind) api.Func {
	m := maker{a, r, p, head, 1 + r.Intn(a.code)}
	head.Code = nil
	for range m.length - 1 {
		head.Code = append(head.Code, m.instr())
	}
	head.Code = append(head.Code, m.ret())
	return head
}

func anyProgram(r *rand.Rand, a kind) api.Program {
	p := api.Program{Globals: 1 + r.Intn(api.MaxGlobals)}
	for range 1 + r.Intn(a.funcs) {
		p.Funcs = append(p.Funcs, anyHead(r, a))
	}
	for n, f := range p.Funcs {
		p.Funcs[n] = anyFunction(r, p, f, a)
	}
	return p
}

// edited: the program with another function in the place of one, with the same head.
func edited(r *rand.Rand, p api.Program, a kind) api.Program {
	q := api.Program{Globals: p.Globals, Funcs: append([]api.Func(nil), p.Funcs...)}
	n := r.Intn(len(q.Funcs))
	q.Funcs[n] = anyFunction(r, q, q.Funcs[n], a)
	return q
}
