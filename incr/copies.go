package incr

import (
	"slices"

	"fugue/api"
)

func copiedProgram(p api.Program) api.Program {
	return api.Program{Globals: p.Globals, Funcs: each(p.Funcs, copiedFunc)}
}

func copiedFunc(f api.Func) api.Func {
	f.Code = each(f.Code, copiedInstr)
	return f
}

func copiedInstr(x api.Instr) api.Instr {
	x.Args, x.Rets = slices.Clone(x.Args), slices.Clone(x.Rets)
	return x
}

func copiedResult(r api.Result) api.Result {
	return api.Result{Sums: each(r.Sums, copiedSum), Vars: each(r.Vars, slices.Clone), Code: each(r.Code, slices.Clone)}
}

func copiedSum(s api.Summary) api.Summary {
	return api.Summary{Heap: slices.Clone(s.Heap), Result: each(s.Result, slices.Clone)}
}

// each: a list in new memory, with what stands in it copied too.
func each[T any](l []T, copied func(T) T) []T {
	c := make([]T, len(l))
	for i, x := range l {
		c[i] = copied(x)
	}
	return c
}

// grown: a list of so many, at least as many as there are, that begins with these; the others are zero.
func grown[T any](l []T, many int) []T {
	c := make([]T, many)
	copy(c, l)
	return c
}
