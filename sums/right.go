package sums

import (
	"slices"

	"fugue/api"
)

// mayBe: is it a number that a summary may have?
func mayBe(n int) bool { return 0 <= n && n <= api.MaxDeref || n == api.None }

// shape: may a function have so many parameters and results? Nothing else of it is looked at.
func shape(f api.Func) bool {
	return 0 <= f.Params && f.Params <= api.MaxParams && 0 <= f.Results && f.Results <= api.MaxResults
}

func shapes(fs []api.Func) bool {
	for _, f := range fs {
		if !shape(f) {
			return false
		}
	}
	return true
}

// right: is it a summary of a function whose shape may be?
func right(f api.Func, s api.Summary) bool {
	if !rightList(s.Heap, f.Params) || len(s.Result) != f.Params {
		return false
	}
	for _, l := range s.Result {
		if !rightList(l, f.Results) {
			return false
		}
	}
	return true
}

func rightList(l []int, many int) bool {
	return len(l) == many && !slices.ContainsFunc(l, func(n int) bool { return !mayBe(n) })
}

// allRight: has each function a summary of its own, and no more are there?
func allRight(fs []api.Func, l []api.Summary) bool {
	return slices.EqualFunc(fs, l, right)
}

// rightResult: is it a result of a program that is right?
func rightResult(p api.Program, r api.Result) bool {
	return allRight(p.Funcs, r.Sums) && slices.EqualFunc(p.Funcs, r.Vars, fitsVars) && slices.EqualFunc(p.Funcs, r.Code, fitsCode)
}

func fitsVars(f api.Func, on []bool) bool { return len(on) == f.Vars }

// fitsCode: has each instruction a bool, true at a New alone?
func fitsCode(f api.Func, on []bool) bool {
	return slices.EqualFunc(f.Code, on, func(in api.Instr, on bool) bool { return in.Op == api.New || !on })
}
