package cert_test

import (
	"math/rand"

	"fugue/api"
)

// kind: what programs by chance are like.
type kind struct {
	funcs, code, vars int // at most
	ladder            bool
}

// kinds: in ladders each variable gets what it has from one close behind it, by loads above all, calls hand on addresses, and little leads out at once: so numbers begin great, and fall one behind the other.
var kinds = []kind{{1, 8, 4, false}, {4, 14, 7, false}, {7, 20, 7, false}, {1, 4, 6, true}, {3, 3, 8, true}, {4, 6, 8, true}, {6, 6, 10, true}}

// maker: of one function of a program whose heads are there.
type maker struct {
	r      *rand.Rand
	p      api.Program
	f      api.Func
	length int
	ladder bool
}

// pair: a variable that is laid into, and one from which it comes.
func (m *maker) pair() (int, int) {
	v := m.r.Intn(m.f.Vars)
	if !m.ladder || v == 0 || m.r.Intn(12) == 0 {
		return v, m.r.Intn(m.f.Vars)
	}
	return v, max(v-1-m.r.Intn(2), 0)
}

// high: so many of the upper variables, in a ladder.
func (m *maker) high(many int) []int {
	if !m.ladder {
		return some(m.r, many, m.f.Vars)
	}
	var l []int
	for range many {
		l = append(l, m.f.Vars-1-m.r.Intn((m.f.Vars+1)/2))
	}
	return l
}

func (m *maker) ret() api.Instr { return ret(m.high(m.f.Results)...) }

func (m *maker) call() api.Instr {
	n := m.r.Intn(len(m.p.Funcs))
	g := m.p.Funcs[n]
	return call(n, some(m.r, g.Params, m.f.Vars), m.high(g.Results))
}

func (m *maker) op() int {
	ops := []int{api.Copy, api.Copy, api.Addr, api.Addr, api.New, api.Load, api.Load, api.Store, api.Set, api.Call, api.Call, api.Call, api.Call, api.Return, api.If, api.Jump, api.Add, api.Get, api.Null, api.Int}
	if m.ladder {
		ops = []int{api.Copy, api.Addr, api.Addr, api.Addr, api.New, api.Load, api.Load, api.Load, api.Load, api.Call, api.Call, api.Call, api.Call, api.If}
	}
	return ops[m.r.Intn(len(ops))]
}

func (m *maker) instr() api.Instr {
	op := m.op()
	to, from := m.pair()
	switch op {
	case api.Copy, api.Addr:
		return api.Instr{Op: op, R: to, S: from}
	case api.New:
		return api.Instr{Op: op, R: to, N: 1 + m.r.Intn(api.MaxFields)}
	case api.Load, api.Store:
		return api.Instr{Op: op, R: to, S: from, N: m.r.Intn(api.MaxFields)}
	case api.Set:
		return api.Instr{Op: op, S: to, N: m.r.Intn(m.p.Globals)}
	case api.Get:
		return api.Instr{Op: op, R: to, N: m.r.Intn(m.p.Globals)}
	case api.Call:
		return m.call()
	case api.If:
		return api.Instr{Op: op, S: to, N: m.r.Intn(m.length)}
	case api.Jump:
		return api.Instr{Op: op, N: m.r.Intn(m.length)}
	case api.Add:
		return api.Instr{Op: op, R: to, S: from, T: to}
	case api.Int, api.Null:
		return api.Instr{Op: op, R: to}
	}
	return m.ret()
}

// rungs: a ladder's parameters come to its variable 3 by loads, and this may lead to the heap; and the address of its first parameter is handed on.
func (m *maker) rungs() []api.Instr {
	var l []api.Instr
	for v := range 3 {
		l = append(l, api.Instr{Op: api.Load, R: v + 1, S: v})
	}
	if m.r.Intn(3) == 0 {
		l = append(l, api.Instr{Op: api.Set, S: 3})
	}
	last := m.f.Vars - 1
	down := m.call()
	if len(down.Args) > 0 {
		down.Args[0] = last
	}
	return append(l, api.Instr{Op: api.Addr, R: last}, down)
}

func (m *maker) code() []api.Instr {
	var l []api.Instr
	if m.ladder {
		l = m.rungs()
	}
	for len(l) < m.length-1 {
		l = append(l, m.instr())
	}
	return append(l, m.ret())
}

func anyProgram(r *rand.Rand, a kind) api.Program {
	p := api.Program{Globals: 1 + r.Intn(api.MaxGlobals)}
	for range 1 + r.Intn(a.funcs) {
		vars := 1 + r.Intn(a.vars)
		f := api.Func{Params: r.Intn(min(vars, 3) + 1), Results: r.Intn(3), Vars: vars}
		if a.ladder {
			f = api.Func{Params: 1 + r.Intn(2), Results: r.Intn(3), Vars: 5 + r.Intn(a.vars-4)}
		}
		p.Funcs = append(p.Funcs, f)
	}
	for i, f := range p.Funcs {
		m := maker{r, p, f, 1 + r.Intn(a.code), a.ladder}
		if a.ladder {
			m.length += 6 // the rungs and the Return
		}
		p.Funcs[i].Code = m.code()
	}
	return p
}
