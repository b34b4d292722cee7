package flow_test

import (
	"math"
	"testing"

	"fugue/api"
	"fugue/flow"
)

// places: how many there are, and by each variable's and each instruction's number its location, from one below the first number to one behind the last.
func places(t *testing.T, what string, f api.Func, all int, vars, code []int) {
	t.Helper()
	if got := flow.Locations(f); got != all {
		t.Errorf("P7.1: %s: Locations: %d, want %d", what, got, all)
	}
	for i, want := range vars {
		if got := flow.Variable(f, i-1); got != want {
			t.Errorf("P7.1: %s: Variable(%d): %d, want %d", what, i-1, got, want)
		}
	}
	for i, want := range code {
		if got := flow.Cell(f, i-1); got != want {
			t.Errorf("P7.1: %s: Cell(%d): %d, want %d", what, i-1, got, want)
		}
	}
	for _, far := range []int{math.MinInt, -2, len(vars) - 1, math.MaxInt} {
		if got := flow.Variable(f, far); got != -1 {
			t.Errorf("P7.1: %s: Variable(%d): %d, want -1", what, far, got)
		}
	}
	for _, far := range []int{math.MinInt, -2, len(code) - 1, math.MaxInt} {
		if got := flow.Cell(f, far); got != -1 {
			t.Errorf("P7.1: %s: Cell(%d): %d, want -1", what, far, got)
		}
	}
}

// news: a New for each 1, another operation for each 0.
func news(bits ...int) []api.Instr {
	var code []api.Instr
	for _, b := range bits {
		op := api.Null
		if b == 1 {
			op = api.New
		}
		code = append(code, api.Instr{Op: op})
	}
	return code
}

func TestPlaces(t *testing.T) {
	f := api.Func{Params: 2, Results: 1, Vars: 4, Code: []api.Instr{{Op: api.Addr, R: 2}, {Op: api.New, R: 3, N: 2}, {Op: api.Store, R: 3, S: 1, N: 1}, ret(2)}}
	places(t, "the chapter's example", f, 7, []int{-1, 2, 3, 4, 5, -1}, []int{-1, -1, 6, -1, -1, -1})
	places(t, "nothing", api.Func{}, 1, []int{-1, -1}, []int{-1, -1})
	places(t, "results alone", api.Func{Results: 4}, 5, []int{-1, -1}, []int{-1, -1})
	places(t, "variables alone", api.Func{Vars: 2}, 3, []int{-1, 1, 2, -1}, []int{-1, -1})
	places(t, "News alone", api.Func{Code: news(1, 1)}, 3, []int{-1, -1}, []int{-1, 1, 2, -1})
	places(t, "News between others", api.Func{Results: 2, Vars: 1, Code: news(0, 1, 0, 1, 1, 0)}, 7, []int{-1, 3, -1}, []int{-1, -1, 4, -1, 5, 6, -1, -1})
	places(t, "News first and last", api.Func{Results: 1, Vars: 3, Code: news(1, 0, 1)}, 7, []int{-1, 2, 3, 4, -1}, []int{-1, 5, -1, 6, -1})
}

// Nothing but Results and Vars may be wrong: neither Params, nor what the instructions are, nor how many of anything there are.
func TestPlacesOfStrangeFunctions(t *testing.T) {
	places(t, "more parameters than variables", api.Func{Params: 9, Results: 1, Vars: 1}, 3, []int{-1, 2, -1}, []int{-1, -1})
	places(t, "parameters below 0", api.Func{Params: -1, Results: 5, Vars: 2}, 8, []int{-1, 6, 7, -1}, []int{-1, -1})
	strange := []api.Instr{{Op: api.New, R: 99, N: -3, Args: []int{1}}, {Op: 99}, {Op: -api.New}, {Op: api.New}}
	places(t, "strange instructions", api.Func{Vars: 1, Code: strange}, 4, []int{-1, 1, -1}, []int{-1, 2, -1, -1, 3, -1})
	great := api.Func{Results: 1000, Vars: 300, Code: news(0, 1)}
	places(t, "beyond the limits", great, 1302, append([]int{-1}, counted(1001, 300)...), []int{-1, -1, 1301, -1})
	many := make([]int, api.MaxCode+5)
	for i := range many {
		many[i] = 1
	}
	places(t, "more code than may be", api.Func{Code: news(many...)}, api.MaxCode+6, []int{-1, -1}, append([]int{-1}, counted(1, api.MaxCode+5)...))
}

// counted: so many numbers from the first on.
func counted(first, many int) []int {
	var l []int
	for i := range many {
		l = append(l, first+i)
	}
	return l
}

func TestPlacesBelowNothing(t *testing.T) {
	for _, wrong := range []int{-1, -2, math.MinInt} {
		for _, f := range []api.Func{{Results: wrong, Vars: 3}, {Results: 3, Vars: wrong}, {Results: wrong, Vars: wrong}, {Results: wrong, Vars: math.MaxInt}, {Results: math.MaxInt, Vars: wrong}} {
			f.Code = news(1, 1)
			places(t, "Results or Vars below 0", f, 0, []int{-1, -1, -1, -1, -1}, []int{-1, -1, -1, -1})
		}
	}
}

func TestPlacesThatWrap(t *testing.T) {
	const last, first = math.MaxInt, math.MinInt
	f := api.Func{Results: last, Vars: last, Code: news(1, 0, 1)}
	ask := func(what string, got, want int) {
		t.Helper()
		if got != want {
			t.Errorf("P7.1: sums beyond an int: %s: %d, want %d", what, got, want)
		}
	}
	ask("Locations", flow.Locations(f), 1) // 1 + (2^63 - 1) + (2^63 - 1) + 2
	ask("Variable(0)", flow.Variable(f, 0), first)
	ask("Variable of the last", flow.Variable(f, last-1), -2)
	ask("Variable behind the last", flow.Variable(f, last), -1)
	ask("Cell(0)", flow.Cell(f, 0), -1) // the wrapped sum happens to be the same number
	ask("Cell(1)", flow.Cell(f, 1), -1)
	ask("Cell(2)", flow.Cell(f, 2), 0)
	f.Vars = 1
	ask("Locations, one variable", flow.Locations(f), first+3)
	ask("Cell(2), one variable", flow.Cell(f, 2), first+2)
	f.Results, f.Vars = 0, last
	ask("Locations, no results", flow.Locations(f), first+2)
	ask("Variable of the last, no results", flow.Variable(f, last-1), last)
	ask("Cell(0), no results", flow.Cell(f, 0), first)
}
