package solve_test

import (
	"math"
	"testing"

	"fugue/api"
	"fugue/solve"
)

func TestLowestOfEachHead(t *testing.T) {
	for params := range api.MaxParams + 1 {
		for results := range api.MaxResults + 1 {
			f := api.Func{Params: params, Results: results, Vars: params}
			if s := solve.Lowest(f); len(s.Heap) != params || len(s.Result) != params || !alike(s, every(f, none)) {
				t.Errorf("P8.2: %d parameters, %d results: %v", params, results, s)
			}
		}
	}
}

func TestLowestOfHeadsThatMayNotBe(t *testing.T) {
	for _, f := range []api.Func{
		{Params: -1}, {Params: 9}, {Params: 9, Vars: 9}, {Results: -1}, {Results: 5}, {Params: 8, Results: 5}, {Params: 9, Results: 4}, {Params: -1, Results: -1}, {Params: 1, Results: -1}, {Params: 2, Results: 5},
		{Params: math.MinInt}, {Params: math.MaxInt}, {Results: math.MinInt}, {Params: 1, Results: math.MaxInt}, {Params: 1 << 32}, {Params: 1, Results: 1 << 32},
	} {
		if s := solve.Lowest(f); s.Heap != nil || s.Result != nil {
			t.Errorf("P8.2: %d parameters, %d results: %v, want no lists", f.Params, f.Results, s)
		}
	}
}

// Neither Vars nor the code are looked at.
func TestLowestLooksAtTheShapeAlone(t *testing.T) {
	for _, f := range []api.Func{{Params: 2, Results: 1}, {Params: 2, Results: 1, Vars: -1}, {Params: 2, Results: 1, Vars: 999, Code: []api.Instr{{Op: 99}}}} {
		if s := solve.Lowest(f); !alike(s, sum([]int{none, none}, []int{none}, []int{none})) {
			t.Errorf("P8.2: %v: %v", f, s)
		}
	}
}
