package gc_test

import (
	"math/rand"

	"fugue/api"
)

func anyVars(r *rand.Rand, n, most int) []int {
	l := make([]int, n)
	for i := range l {
		l[i] = r.Intn(most)
	}
	return l
}

// anyInstr: of a right program with these heads. Pointers are made, stored and lost often, so that there is much to collect.
func anyInstr(r *rand.Rand, p *api.Program, f *api.Func, length int) api.Instr {
	v := func() int { return r.Intn(f.Vars) }
	ops := []int{1, 2, 2, 3, 4, 5, 5, 6, 6, 6, 6, 6, 7, 7, 7, 8, 8, 8, 8, 9, 9, 10, 10, 10, 11, 11, 11, 11, 12, 12, 13, 14, 15, 16, 17}
	switch op := ops[r.Intn(len(ops))]; op {
	case api.Int:
		return api.Instr{Op: op, R: v(), N: r.Intn(9) - 1}
	case api.Copy, api.Addr:
		return api.Instr{Op: op, R: v(), S: v()}
	case api.Add, api.Less, api.Same:
		return api.Instr{Op: op, R: v(), S: v(), T: v()}
	case api.New:
		return api.Instr{Op: op, R: v(), N: 1 + r.Intn(8)}
	case api.Load, api.Store:
		return api.Instr{Op: op, R: v(), S: v(), N: max(0, r.Intn(20)-12)}
	case api.Get:
		return api.Instr{Op: op, R: v(), N: r.Intn(p.Globals)}
	case api.Set:
		return api.Instr{Op: op, S: v(), N: r.Intn(p.Globals)}
	case api.Call:
		n := r.Intn(len(p.Funcs))
		return api.Instr{Op: op, N: n, Args: anyVars(r, p.Funcs[n].Params, f.Vars), Rets: anyVars(r, p.Funcs[n].Results, f.Vars)}
	case api.Print:
		return api.Instr{Op: op, S: v()}
	case api.Jump:
		return api.Instr{Op: op, N: r.Intn(length)}
	case api.If:
		return api.Instr{Op: op, S: v(), N: r.Intn(length)}
	case api.Null:
		return api.Instr{Op: op, R: v()}
	}
	return api.Instr{Op: api.Return, Args: anyVars(r, f.Results, f.Vars)}
}

// anyPointer: an instruction that makes one.
func anyPointer(r *rand.Rand, v int, f *api.Func) api.Instr {
	if r.Intn(3) > 0 {
		return api.Instr{Op: api.New, R: v, N: 1 + r.Intn(8)}
	}
	return api.Instr{Op: api.Addr, R: v, S: r.Intn(f.Vars)}
}

// anyProgram: a right one. At its beginning a function fills most variables with pointers, so that runs go far ahead of a Nils; what it gives back is often a pointer to what it made, which its caller follows.
func anyProgram(r *rand.Rand) api.Program {
	p := api.Program{Globals: 1 + r.Intn(3), Funcs: make([]api.Func, 1+r.Intn(5))}
	for i := range p.Funcs {
		vars := 1 + r.Intn(5)
		p.Funcs[i] = api.Func{Params: r.Intn(1 + min(3, vars)), Results: (1 + r.Intn(5)) / 2, Vars: vars}
	}
	for i := range p.Funcs {
		f := &p.Funcs[i]
		length := 8 + r.Intn(15)
		for v := range f.Vars {
			if r.Intn(4) > 0 {
				f.Code = append(f.Code, anyPointer(r, v, f))
			}
		}
		for len(f.Code) < length-2 {
			c := anyInstr(r, &p, f, length)
			f.Code = append(f.Code, c)
			if len(c.Rets) > 0 && len(f.Code) < length-2 && r.Intn(3) > 0 {
				f.Code = append(f.Code, api.Instr{Op: api.Load, R: r.Intn(f.Vars), S: c.Rets[0]})
			}
		}
		last := anyPointer(r, r.Intn(f.Vars), f)
		out := anyVars(r, f.Results, f.Vars)
		for j := range out {
			if r.Intn(2) == 0 {
				out[j] = last.R
			}
		}
		f.Code = append(f.Code, last, api.Instr{Op: api.Return, Args: out})
	}
	return p
}

func anyArgs(r *rand.Rand, p api.Program) []api.Value {
	var args []api.Value
	for range p.Funcs[0].Params {
		args = append(args, []api.Value{null, num(0), num(r.Intn(9) - 4)}[r.Intn(3)])
	}
	return args
}
