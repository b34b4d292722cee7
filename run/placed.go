package run

import (
	"slices"

	"fugue/api"
)

// function: a function of the run's own copy of the program, with where its cells lie.
type function struct {
	vars []bool // by variable: on the heap
	code []line
}

// line: an instruction, and whether the cell that it makes is on the heap.
type line struct {
	api.Instr
	heap bool
}

// fits: is it a placement of the program?
func fits(p api.Program, heap api.Result) bool {
	if len(heap.Vars) != len(p.Funcs) || len(heap.Code) != len(p.Funcs) {
		return false
	}
	for i, f := range p.Funcs {
		if len(heap.Vars[i]) != f.Vars || len(heap.Code[i]) != len(f.Code) {
			return false
		}
	}
	return true
}

// areArgs: may a run of the function begin with these?
func areArgs(f api.Func, args []api.Value) bool {
	if len(args) != f.Params {
		return false
	}
	for _, v := range args {
		if v != (api.Value{}) && v.Kind != api.Num {
			return false
		}
	}
	return true
}

// functions copies all that a run needs of its program, since the run goes on when whoever gave it may change it.
func functions(p api.Program, heap api.Result) []function {
	funcs := make([]function, len(p.Funcs))
	for i, f := range p.Funcs {
		funcs[i] = function{
			vars: slices.Clone(heap.Vars[i]),
			code: lines(f.Code, heap.Code[i]),
		}
	}
	return funcs
}

func lines(code []api.Instr, heap []bool) []line {
	out := make([]line, len(code))
	for i, c := range code {
		c.Args, c.Rets = slices.Clone(c.Args), slices.Clone(c.Rets)
		out[i] = line{c, heap[i]}
	}
	return out
}

// truths: so many, all true.
func truths(n int) []bool {
	return slices.Repeat([]bool{true}, n)
}
