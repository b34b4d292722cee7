package flow

import (
	"testing"

	"fugue/api"
)

// The iterator ends where its reader does, within whatever it is then.
func TestTheIteratorEndsWithItsReader(t *testing.T) {
	f := api.Func{Params: 2, Results: 2, Vars: 2, Code: []api.Instr{
		{Op: api.Copy}, {Op: api.Null}, {Op: api.Call, Args: []int{0, 1}, Rets: []int{1, 0}}, {Op: api.New, N: 1}, {Op: api.Return, Args: []int{0, 1}}}}
	s := api.Summary{Heap: []int{1, 2}, Result: [][]int{{0, 1}, {2, 3}}}
	p := api.Program{Funcs: []api.Func{f}}
	all, err := Edges(p, 0, []api.Summary{s})
	if err != api.OK || len(all) != 10 {
		t.Fatalf("P7.2: %v, error %d", all, err)
	}
	for stop := range all {
		at := 0
		for e := range (body{f, []api.Summary{s}}).edges {
			if e != all[at] {
				t.Errorf("P7.2: the edge %d is %v, want %v", at, e, all[at])
			}
			if at == stop {
				break
			}
			at++
		}
		if at != stop {
			t.Errorf("P7.2: ended at %d, want %d", at, stop)
		}
	}
}
