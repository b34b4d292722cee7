package flow_test

import (
	"runtime/debug"
	"slices"
	"testing"

	"fugue/api"
	"fugue/flow"
)

// How many functions there are does not count, nor how many locations they have together; a Call may name each of them.
func TestMoreFunctionsThanMayBe(t *testing.T) {
	const many = api.MaxFuncs + 3000
	funcs := slices.Repeat([]api.Func{head(1, 1, 255)}, many)
	sums := slices.Repeat([]api.Summary{{Heap: []int{none}, Result: [][]int{{none}}}}, many)
	for _, n := range []int{0, 1, api.MaxFuncs - 1, api.MaxFuncs, api.MaxFuncs + 1, many - 1} {
		funcs[5] = with(head(1, 1, 255), call(n, []int{0}, []int{254}), ret(254))
		sums[n] = api.Summary{Heap: []int{1}, Result: [][]int{{2}}}
		gives(t, "a call of a far function", program(0, funcs...), 5, sums, e(0, 2, 1), e(256, 2, 2), e(1, 256, 0))
		sums[n] = api.Summary{Heap: []int{1}}
		refused(t, "the summary of a far function", program(0, funcs...), 5, sums)
		sums[n] = every(funcs[n], none)
	}
	passes(t, "the last of too many", program(0, funcs...), many-1, sums)
	funcs[5].Code[0].N = many
	refused(t, "a call of one behind the last", program(0, funcs...), 5, sums)
	refused(t, "the one behind the last", program(0, funcs...), many, sums)
}

// A function that calls as many others as it can, each with as many variables as it may have: more than MaxLocs in the program.
func TestAsManyCalleesAsMayBe(t *testing.T) {
	defer debug.SetMaxStack(debug.SetMaxStack(1 << 20))
	const callees = api.MaxCode - 1
	big := head(8, 4, 255)
	funcs := slices.Repeat([]api.Func{big}, 2*callees)
	var sums []api.Summary
	for n := range funcs {
		sums = append(sums, every(big, n%4))
	}
	var code []api.Instr
	for n := range callees {
		code = append(code, call(1+n*2%len(funcs), []int{0, 1, 2, 3, 4, 5, 6, 7}, []int{254, 253, 252, 251}))
	}
	funcs[0].Code = append(code, ret(0, 0, 0, 0))
	sums[0] = every(big, none)
	got, err := flow.Edges(program(0, funcs...), 0, sums)
	if err != api.OK || len(got) != callees*8*5+4 {
		t.Fatalf("P7.2: many callees: %d edges, error %d", len(got), err)
	}
	if x, want := got[len(got)-5], e(5+251, 5+7, (1+(callees-1)*2)%4); x != want {
		t.Errorf("P7.2: many callees: the last call's last edge is %v, want %v", x, want)
	}
}

func TestAsManyNewsAsMayBe(t *testing.T) {
	code := append(slices.Repeat([]api.Instr{{Op: api.New, R: 254, N: 8}}, api.MaxCode-1), ret(0, 0, 0, 0))
	f := with(head(0, 4, 255), code...)
	got, err := flow.Edges(program(16, f), 0, make([]api.Summary, 1))
	if err != api.OK || len(got) != api.MaxCode+3 {
		t.Fatalf("P7.2: many News: %d edges, error %d", len(got), err)
	}
	for at := range api.MaxCode - 1 {
		if want := e(259, 260+at, -1); got[at] != want {
			t.Fatalf("P7.2: many News: the edge %d is %v, want %v", at, got[at], want)
		}
	}
	if n := flow.Cell(f, api.MaxCode-2); n != flow.Locations(f)-1 || n != 260+api.MaxCode-2 {
		t.Errorf("P7.1: the last of many News has the location %d", n)
	}
}

// A chain of as many functions as there may be takes no longer for one than a short one.
func TestLongChain(t *testing.T) {
	funcs := make([]api.Func, api.MaxFuncs)
	for n := range funcs {
		funcs[n] = with(head(1, 1, 2), call((n+1)%len(funcs), []int{0}, []int{1}), ret(1))
	}
	p := program(0, funcs...)
	sums := lowest(p)
	for n := range funcs {
		if got, err := flow.Edges(p, n, sums); err != api.OK || len(got) != 1 || got[0] != e(1, 3, 0) {
			t.Fatalf("P7.2: the function %d of a long chain: %v, error %d", n, got, err)
		}
	}
}
