package inline_test

import (
	"math/rand"
	"slices"

	"fugue/api"
)

// kind: what programs by chance are like.
type kind struct {
	funcs, code, vars int  // at most
	addrs             int  // one of so many functions may have some
	calm              bool // runs come far: jumps lead ahead for the most part, and few Loads and Stores go astray
}

// maker: of one function of a program whose heads are there.
type maker struct {
	r      *rand.Rand
	p      api.Program
	f      api.Func
	length int
	addr   bool
	calm   bool
	callee func() int // -1: nobody
}

func (m *maker) v() int { return m.r.Intn(m.f.Vars) }

// pointer: a variable that may well hold a pointer; the last third are they.
func (m *maker) pointer() int {
	if !m.calm || m.r.Intn(40) == 0 {
		return m.v()
	}
	n := m.f.Vars - (m.f.Vars+2)/3
	return n + m.r.Intn(m.f.Vars-n)
}

// other: a variable in which no pointer is lost.
func (m *maker) other() int {
	if !m.calm || m.f.Vars < 2 || m.r.Intn(40) == 0 {
		return m.v()
	}
	return m.r.Intn(m.f.Vars - (m.f.Vars+2)/3)
}

func (m *maker) field() int {
	if m.calm && m.r.Intn(8) > 0 {
		return m.r.Intn(2)
	}
	return m.r.Intn(api.MaxFields)
}

func (m *maker) fields() int {
	if m.calm && m.r.Intn(40) > 0 {
		return 2 + m.r.Intn(api.MaxFields-1)
	}
	return 1 + m.r.Intn(api.MaxFields)
}

func (m *maker) target(at int) int {
	if m.calm && m.r.Intn(20) > 0 {
		return min(at+1+m.r.Intn(4), m.length-1)
	}
	return m.r.Intn(m.length)
}

func (m *maker) number() int {
	if m.r.Intn(5) == 0 {
		return ends[m.r.Intn(len(ends))]
	}
	return m.r.Intn(5) - 1
}

// others: so many that are laid into; one of them may be where a pointer is.
func (m *maker) others(many int) []int {
	var l []int
	for range many {
		l = append(l, m.other())
	}
	return l
}

// instr: any operation, calls more often, as it may stand at that place.
func (m *maker) instr(at int) api.Instr {
	op := 1 + m.r.Intn(24)
	if op == api.Addr && !m.addr {
		op = api.Copy
	}
	if m.calm && (op == api.Return || op == api.Jump) && m.r.Intn(3) > 0 {
		op = api.Print
	}
	switch op {
	case api.Int:
		return api.Instr{Op: op, R: m.other(), N: m.number()}
	case api.Null:
		return api.Instr{Op: op, R: m.other()}
	case api.Copy:
		return api.Instr{Op: op, R: m.other(), S: m.v()}
	case api.Addr:
		return api.Instr{Op: op, R: m.pointer(), S: m.v()}
	case api.Add, api.Less, api.Same:
		return api.Instr{Op: op, R: m.other(), S: m.v(), T: m.v()}
	case api.New:
		return api.Instr{Op: op, R: m.pointer(), N: m.fields()}
	case api.Load:
		return api.Instr{Op: op, R: m.other(), S: m.pointer(), N: m.field()}
	case api.Store:
		return api.Instr{Op: op, R: m.pointer(), S: m.v(), N: m.field()}
	case api.Get:
		return api.Instr{Op: op, R: m.other(), N: m.r.Intn(m.p.Globals)}
	case api.Set:
		return api.Instr{Op: op, S: m.v(), N: m.r.Intn(m.p.Globals)}
	case api.Print:
		return api.Instr{Op: op, S: m.v()}
	case api.Jump:
		return api.Instr{Op: op, N: m.target(at)}
	case api.If:
		return api.Instr{Op: op, S: m.v(), N: m.target(at)}
	case api.Return:
		return ret(some(m.r, m.f.Results, m.f.Vars)...)
	}
	n := m.callee()
	if n < 0 {
		return api.Instr{Op: api.Print, S: m.v()}
	}
	g := m.p.Funcs[n]
	return api.Instr{Op: api.Call, N: n, Args: some(m.r, g.Params, m.f.Vars), Rets: m.others(g.Results)}
}

// code: in a calm one the pointers are there at the beginning.
func (m *maker) code() []api.Instr {
	var l []api.Instr
	if m.calm {
		for v := m.f.Vars - (m.f.Vars+2)/3; v < m.f.Vars && len(l) < m.length-1; v++ {
			l = append(l, api.Instr{Op: api.New, R: v, N: m.fields()})
		}
	}
	for len(l) < m.length-1 {
		l = append(l, m.instr(len(l)))
	}
	if m.r.Intn(16) == 0 {
		return append(l, api.Instr{Op: api.Jump, N: m.r.Intn(m.length)})
	}
	return append(l, ret(some(m.r, m.f.Results, m.f.Vars)...))
}

// anyProgram: who calls whom: anybody; or those that come later in some order, so that rings are rare.
func anyProgram(r *rand.Rand, k kind) api.Program {
	p := api.Program{Globals: 1 + r.Intn(api.MaxGlobals)}
	n := 1 + r.Intn(k.funcs)
	for range n {
		vars := 1 + r.Intn(1+r.Intn(k.vars))
		p.Funcs = append(p.Funcs, api.Func{Params: r.Intn(min(vars, api.MaxParams) + 1), Results: r.Intn(api.MaxResults + 1), Vars: vars})
	}
	as, anybody := r.Perm(n), r.Intn(4) == 0
	if at := slices.Index(as, 0); k.calm { // runs begin with what calls others
		as[0], as[at] = as[at], as[0]
	}
	for i, f := range p.Funcs {
		at := slices.Index(as, i)
		callee := func() int {
			if at == n-1 {
				return -1
			}
			return as[min(n-1, at+1+r.Intn(3))]
		}
		if anybody {
			callee = func() int { return r.Intn(n) }
		} else if r.Intn(8) == 0 {
			callee = func() int { return as[at+r.Intn(n-at)] }
		}
		m := maker{r: r, p: p, f: f, length: 1 + r.Intn(1+r.Intn(k.code)), addr: r.Intn(k.addrs) == 0, calm: k.calm, callee: callee}
		if k.calm {
			m.length += k.code / 3
		}
		p.Funcs[i].Code = m.code()
	}
	return p
}
