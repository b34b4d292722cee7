package plan_test

import (
	"slices"

	"fugue/api"
)

// reaching: by function and function whether the one reaches the other by calls.
func reaching(p api.Program) [][]bool {
	reach := make([][]bool, len(p.Funcs))
	for n, f := range p.Funcs {
		reach[n] = make([]bool, len(p.Funcs))
		reach[n][n] = true
		for _, x := range f.Code {
			if x.Op == api.Call {
				reach[n][x.N] = true
			}
		}
	}
	for by := range reach {
		for f := range reach {
			for g := range reach {
				reach[f][g] = reach[f][g] || reach[f][by] && reach[by][g]
			}
		}
	}
	return reach
}

// plainMay: may the call be inlined, by the chapter's words?
func plainMay(p api.Program, reach [][]bool, m api.Move) bool {
	if m.Func < 0 || m.Func >= len(p.Funcs) || m.At < 0 || m.At >= len(p.Funcs[m.Func].Code) {
		return false
	}
	x := p.Funcs[m.Func].Code[m.At]
	return x.Op == api.Call && !(reach[m.Func][x.N] && reach[x.N][m.Func]) &&
		!slices.ContainsFunc(p.Funcs[x.N].Code, func(x api.Instr) bool { return x.Op == api.Addr })
}

// laid: what stands behind the moves in the place of a function's code, with no number in it: one operation for each instruction.
func laid(p api.Program, n int, ms []api.Move) (vars int, ops []int) {
	vars = p.Funcs[n].Vars
	for at, x := range p.Funcs[n].Code {
		if !slices.Contains(ms, api.Move{Func: n, At: at}) {
			ops = append(ops, x.Op)
			continue
		}
		g := p.Funcs[x.N]
		for v := range g.Vars {
			vars++
			if v < g.Params {
				ops = append(ops, api.Copy)
			} else {
				ops = append(ops, api.Null)
			}
		}
		for _, y := range g.Code {
			if y.Op != api.Return {
				ops = append(ops, y.Op)
				continue
			}
			for range x.Rets {
				ops = append(ops, api.Copy)
			}
			ops = append(ops, api.Jump)
		}
	}
	return vars, ops
}

// plainFits: is the program that the moves lead to within the limits?
func plainFits(p api.Program, ms []api.Move) bool {
	locations := 1
	for n := range p.Funcs {
		vars, ops := laid(p, n, ms)
		locations += vars
		for _, op := range ops {
			if op == api.New {
				locations++
			}
		}
		if vars > api.MaxVars || len(ops) > api.MaxCode {
			return false
		}
	}
	return locations <= api.MaxLocs
}

// plainPlan: of a right program.
func plainPlan(p api.Program, reach [][]bool, ms []api.Move) bool {
	for i, m := range ms {
		if !plainMay(p, reach, m) {
			return false
		}
		if i > 0 && !(ms[i-1].Func < m.Func || ms[i-1].Func == m.Func && ms[i-1].At < m.At) {
			return false
		}
	}
	return plainFits(p, ms)
}

// plainMake: of a right program.
func plainMake(p api.Program, reach [][]bool, callee, function int) []api.Move {
	var named []api.Move
	for n, f := range p.Funcs {
		for at, x := range f.Code {
			m := api.Move{Func: n, At: at}
			if !plainMay(p, reach, m) || len(p.Funcs[x.N].Code) > max(callee, 0) {
				continue
			}
			with := append(slices.Clone(named), m)
			if _, ops := laid(p, n, with); len(ops) <= max(function, 0) && plainPlan(p, reach, with) {
				named = with
			}
		}
	}
	return named
}

// candidates: the calls that may be inlined, in the order of a plan.
func candidates(p api.Program, reach [][]bool) []api.Move {
	var l []api.Move
	for n, f := range p.Funcs {
		for at := range f.Code {
			if m := (api.Move{Func: n, At: at}); plainMay(p, reach, m) {
				l = append(l, m)
			}
		}
	}
	return l
}
