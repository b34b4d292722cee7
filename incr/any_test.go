package incr_test

import (
	"math/rand"
	"slices"

	"fugue/api"
)

// some: so many of the numbers below n.
func some(r *rand.Rand, many, n int) []int {
	var l []int
	for range many {
		l = append(l, r.Intn(n))
	}
	return l
}

// anyHead: few shapes, so that many functions may be called in one another's places.
func anyHead(r *rand.Rand) api.Func {
	if r.Intn(3) > 0 {
		return api.Func{Params: 1, Results: 1, Vars: 2 + r.Intn(4)}
	}
	vars := 1 + r.Intn(5)
	return api.Func{Params: r.Intn(min(vars, 3) + 1), Results: r.Intn(3), Vars: vars}
}

// maker: of one function of a program whose heads are there.
type maker struct {
	r      *rand.Rand
	p      api.Program
	f      api.Func
	length int
}

func (m maker) call(n int) api.Instr {
	g := m.p.Funcs[n]
	return call(n, some(m.r, g.Params, m.f.Vars), some(m.r, g.Results, m.f.Vars))
}

func (m maker) ret() api.Instr { return ret(some(m.r, m.f.Results, m.f.Vars)...) }

// instr: calls are few, so that there are chains and rings and functions that nobody calls.
func (m maker) instr() api.Instr {
	v := func() int { return m.r.Intn(m.f.Vars) }
	ops := []int{api.Copy, api.Copy, api.Addr, api.New, api.Load, api.Load, api.Store, api.Set, api.Return, api.If, api.Jump, api.Add, api.Get, api.Null}
	op := ops[m.r.Intn(len(ops))]
	if m.r.Intn(3) == 0 {
		return m.call(m.r.Intn(len(m.p.Funcs)))
	}
	switch op {
	case api.Copy, api.Addr:
		return api.Instr{Op: op, R: v(), S: v()}
	case api.New:
		return api.Instr{Op: op, R: v(), N: 1 + m.r.Intn(api.MaxFields)}
	case api.Load, api.Store:
		return api.Instr{Op: op, R: v(), S: v(), N: m.r.Intn(api.MaxFields)}
	case api.Set:
		return api.Instr{Op: op, S: v(), N: m.r.Intn(m.p.Globals)}
	case api.Get:
		return api.Instr{Op: op, R: v(), N: m.r.Intn(m.p.Globals)}
	case api.If:
		return api.Instr{Op: op, S: v(), N: m.r.Intn(m.length)}
	case api.Jump:
		return api.Instr{Op: op, N: m.r.Intn(m.length)}
	case api.Add:
		return api.Instr{Op: op, R: v(), S: v(), T: v()}
	case api.Null:
		return api.Instr{Op: op, R: v()}
	}
	return m.ret()
}

// function: one with this head, for a program whose heads are there.
func function(r *rand.Rand, p api.Program, head api.Func) api.Func {
	m := maker{r, p, head, 1 + r.Intn(6)}
	head.Code = nil
	for range m.length - 1 {
		head.Code = append(head.Code, m.instr())
	}
	head.Code = append(head.Code, m.ret())
	return head
}

// edited: a function with another instruction in the place of one that is not its last.
func edited(r *rand.Rand, p api.Program, f api.Func) api.Func {
	f.Code = slices.Clone(f.Code)
	if last := len(f.Code) - 1; last > 0 {
		f.Code[r.Intn(last)] = maker{r, p, f, len(f.Code)}.instr()
	}
	return f
}

func anyProgram(r *rand.Rand, funcs int) api.Program {
	p := api.Program{Globals: 1 + r.Intn(api.MaxGlobals)}
	for range 1 + r.Intn(funcs) {
		p.Funcs = append(p.Funcs, anyHead(r))
	}
	for n, f := range p.Funcs {
		p.Funcs[n] = function(r, p, f)
	}
	return p
}

// calling: the functions that call one.
func calling(p api.Program, n int) []int {
	var l []int
	for f, body := range p.Funcs {
		if slices.ContainsFunc(body.Code, func(x api.Instr) bool { return x.Op == api.Call && x.N == n }) {
			l = append(l, f)
		}
	}
	return l
}

// anyChange: functions for a program, and their numbers, by chance; behind the change the program is right.
func anyChange(r *rand.Rand, p api.Program) ([]int, []api.Func) {
	if r.Intn(12) == 0 {
		return nil, nil
	}
	q := api.Program{Globals: p.Globals, Funcs: slices.Clone(p.Funcs)}
	at := r.Perm(len(p.Funcs))[:min(1+r.Intn(2)*r.Intn(len(p.Funcs)+1), len(p.Funcs))]
	if r.Intn(6) == 0 { // another head: those that call it must be others too
		n := at[0]
		q.Funcs[n] = anyHead(r)
		at = append(calling(p, n), n)
		slices.Sort(at)
		at = slices.Compact(at)
	}
	if r.Intn(4) == 0 {
		if r.Intn(2) == 0 {
			at, q.Funcs = nil, slices.Clone(p.Funcs) // new ones alone
		}
		for range 1 + r.Intn(3) {
			at = append(at, len(q.Funcs))
			q.Funcs = append(q.Funcs, anyHead(r))
		}
	}
	r.Shuffle(len(at), func(i, j int) { at[i], at[j] = at[j], at[i] })
	return at, anyFunctions(r, p, q, at)
}

// anyFunctions: for the program that p becomes, of which the heads are there: the same ones again, edited ones, wholly other ones.
func anyFunctions(r *rand.Rand, p, q api.Program, at []int) []api.Func {
	moved := slices.ContainsFunc(at, func(n int) bool { return n >= len(p.Funcs) || len(q.Funcs[n].Code) == 0 })
	way := r.Intn(4)
	var fs []api.Func
	for _, n := range at {
		switch {
		case moved || way == 3:
			fs = append(fs, function(r, q, q.Funcs[n]))
		case way == 0:
			fs = append(fs, p.Funcs[n])
		default:
			fs = append(fs, edited(r, q, p.Funcs[n]))
		}
	}
	return fs
}
