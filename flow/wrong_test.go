package flow_test

import (
	"math"
	"slices"
	"testing"

	"fugue/api"
)

// ring: two functions that call each other, and one that neither calls.
func ring() api.Program {
	f := with(head(1, 1, 2), call(1, []int{0}, []int{1}), ret(1))
	g := with(head(1, 1, 2), call(0, []int{0}, []int{1}), ret(1))
	return program(1, f, g, head(2, 2, 3))
}

func TestNoSuchFunction(t *testing.T) {
	p := ring()
	for f := range 3 {
		passes(t, "a function that is there", p, f, lowest(p))
	}
	for _, f := range []int{-1, -2, 3, 4, math.MinInt, math.MaxInt, 1 << 32} {
		refused(t, "no such function", p, f, lowest(p))
	}
	refused(t, "no functions", api.Program{}, 0, nil)
	refused(t, "no functions", api.Program{}, -1, []api.Summary{{}})
}

func TestHowManySummaries(t *testing.T) {
	p := ring()
	for f := range 3 {
		refused(t, "no summaries", p, f, nil)
		refused(t, "too few summaries", p, f, lowest(p)[:2])
		refused(t, "too many summaries", p, f, append(lowest(p), api.Summary{}))
	}
	p = program(0, head(0, 0, 0))
	refused(t, "no summaries of one that calls nobody", p, 0, nil)
	refused(t, "two summaries of one function", p, 0, make([]api.Summary, 2))
}

func TestGlobals(t *testing.T) {
	p := program(0, head(0, 0, 0))
	for _, n := range []int{0, 1, api.MaxGlobals} {
		p.Globals = n
		passes(t, "Globals that may be", p, 0, lowest(p))
	}
	for _, n := range []int{-1, math.MinInt, api.MaxGlobals + 1, 256, 1 << 32, math.MaxInt} {
		p.Globals = n
		refused(t, "Globals", p, 0, lowest(p))
	}
}

func wrongHeads() []api.Func {
	return []api.Func{
		head(-1, 0, 0), head(math.MinInt, 0, 0), head(9, 0, 9), head(3, 0, 2), head(256, 0, 256), head(math.MaxInt, 0, math.MaxInt),
		head(0, -1, 0), head(0, 5, 1), head(0, 256, 1), head(0, math.MinInt, 0), head(0, math.MaxInt, 0),
		head(0, 0, -1), head(0, 0, 256), head(0, 0, math.MinInt), head(0, 0, math.MaxInt), head(-1, 0, -1), head(0, 0, 1<<32),
	}
}

func TestHeads(t *testing.T) {
	for _, f := range []api.Func{head(0, 0, 0), head(8, 4, 8), head(8, 4, 255), head(0, 4, 0), head(1, 0, 1)} {
		passes(t, "a head that may be", program(0, f), 0, make([]api.Summary, 1))
	}
	for _, f := range wrongHeads() {
		refused(t, "a head that may not be", program(0, f), 0, make([]api.Summary, 1))
	}
}

// Of a callee its Params, Results and Vars must be right, of one that is not called nothing.
func TestHeadsOfOthers(t *testing.T) {
	for _, g := range wrongHeads() {
		in := call(1, make([]int, min(max(g.Params, 0), 300)), make([]int, min(max(g.Results, 0), 300)))
		s := every(api.Func{Params: len(in.Args), Results: len(in.Rets)}, none)
		p := program(0, with(head(0, 0, 2), in, ret()), g)
		refused(t, "the head of a callee", p, 0, []api.Summary{{}, s})
		p = program(0, with(head(0, 0, 2), api.Instr{Op: api.Jump, N: 2}, in, ret()), g)
		refused(t, "the head of a callee in code that nothing reaches", p, 0, []api.Summary{{}, s})
		p = program(0, with(head(0, 0, 2), api.Instr{Op: api.Int, N: 1}, ret()), g)
		passes(t, "the head of one that is not called", p, 0, []api.Summary{{}, s})
	}
	f, g := with(head(0, 0, 1), call(1, nil, nil), ret()), with(head(0, 0, 1), call(2, nil, nil), ret())
	passes(t, "the head of a callee's callee", program(0, f, g, head(-1, -1, -1)), 0, make([]api.Summary, 3))
}

// Neither how much code another function has, nor what stands there, counts.
func TestCodeOfOthers(t *testing.T) {
	long := make([]api.Instr, api.MaxCode+1)
	for i := range long {
		long[i] = ret()
	}
	for _, code := range [][]api.Instr{nil, {}, long, {{Op: 99}}, {{Op: api.Print, S: 9}, ret()}, {{Op: api.Null}}, {call(7, nil, nil), ret()}, {ret(0)}} {
		other := with(head(0, 0, 1), code...)
		p := program(1, with(head(0, 0, 1), call(1, nil, nil), api.Instr{Op: api.Set}, ret()), other)
		gives(t, "the code of a callee", p, 0, make([]api.Summary, 2), e(0, 1, 0))
		gives(t, "the code of one that is not called", program(0, other, head(0, 0, 0)), 1, make([]api.Summary, 2))
	}
}

func TestCodeThatIsWrong(t *testing.T) {
	g := head(1, 2, 2)
	f := head(0, 1, 3)
	for what, in := range map[string]api.Instr{
		"no operation": {}, "operation 18": {Op: 18}, "operation -1": {Op: -1}, "operation 262": {Op: 256 + api.New},
		"R": {Op: api.Null, R: 3}, "R below 0": {Op: api.Null, R: -1}, "R beyond a byte": {Op: api.Null, R: 256},
		"S": {Op: api.Copy, S: 3}, "S below 0": {Op: api.Addr, S: -1}, "T": {Op: api.Add, T: 3}, "T below 0": {Op: api.Same, T: -1},
		"a field not named": {Op: api.Copy, N: 1}, "Args not named": {Op: api.Null, Args: []int{0}}, "Rets not named": {Op: api.Return, Args: []int{0}, Rets: []int{0}}, "R of a Set": {Op: api.Set, R: 1},
		"fields of a New: 0": {Op: api.New}, "fields of a New: 9": {Op: api.New, N: 9}, "a Load's field": {Op: api.Load, N: 8}, "a Store's field": {Op: api.Store, N: -1},
		"Get": {Op: api.Get, N: 2}, "Get below 0": {Op: api.Get, N: -1}, "Set": {Op: api.Set, N: 2},
		"no such callee": call(2, []int{0}, []int{0, 0}), "callee below 0": call(-1, []int{0}, []int{0, 0}), "callee at the far end": call(math.MaxInt, []int{0}, []int{0, 0}), "callee at the other": call(math.MinInt, []int{0}, []int{0, 0}),
		"too few Args": call(1, nil, []int{0, 0}), "too many Args": call(1, []int{0, 0}, []int{0, 0}), "too few Rets": call(1, []int{0}, []int{0}), "too many Rets": call(1, []int{0}, []int{0, 0, 0}),
		"Args of a Call": call(1, []int{3}, []int{0, 0}), "Args below 0": call(1, []int{-1}, []int{0, 0}), "Rets of a Call": call(1, []int{0}, []int{0, 3}), "Rets below 0": call(1, []int{0}, []int{-1, 0}),
		"itself with a callee's things": call(0, []int{0}, []int{0, 0}), "R of a Call": {Op: api.Call, N: 1, R: 1, Args: []int{0}, Rets: []int{0, 0}},
		"Return of too few": ret(), "Return of too many": ret(0, 0), "Return of no variable": ret(3),
		"Jump": {Op: api.Jump, N: 2}, "Jump below 0": {Op: api.Jump, N: -1}, "If": {Op: api.If, N: 2}, "If of no variable": {Op: api.If, S: 3},
	} {
		p := program(2, with(f, in, ret(0)), g)
		refused(t, what, p, 0, lowest(p))
		p = program(2, with(f, ret(0), in), g)
		refused(t, what+", at the end", p, 0, lowest(p))
		p = program(2, with(f, ret(0), ret(0)), g, with(f, in, ret(0)))
		passes(t, what+", elsewhere", p, 0, lowest(p))
	}
	p := program(2, with(f, call(1, []int{0}, []int{0, 2}), ret(0)), g)
	passes(t, "a right one", p, 0, lowest(p))
	for _, last := range []api.Instr{{Op: api.Null}, {Op: api.If}, call(1, []int{0}, []int{0, 2}), {Op: api.Print}} {
		p.Funcs[0].Code[1] = last
		refused(t, "the end is open", p, 0, lowest(p))
	}
}

func TestHowMuchCode(t *testing.T) {
	refused(t, "no code", program(0, api.Func{}), 0, make([]api.Summary, 1))
	refused(t, "no code", program(0, api.Func{Code: []api.Instr{}}), 0, make([]api.Summary, 1))
	refused(t, "no code, of the second", program(0, head(0, 0, 0), api.Func{}), 1, make([]api.Summary, 2))
	code := slices.Repeat([]api.Instr{ret()}, api.MaxCode+1)
	passes(t, "as much code as may be", program(0, with(head(0, 0, 0), code[1:]...)), 0, make([]api.Summary, 1))
	refused(t, "an instruction too many", program(0, with(head(0, 0, 0), code...)), 0, make([]api.Summary, 1))
	code = append(slices.Repeat([]api.Instr{call(0, nil, nil)}, api.MaxCode), ret())
	refused(t, "a call too many", program(0, with(head(0, 0, 0), code...)), 0, make([]api.Summary, 1))
}

// wrongSummaries: none of them is right for a function with two parameters and one result.
func wrongSummaries() []api.Summary {
	two := [][]int{{0}, {none}}
	l := []api.Summary{
		{}, {Heap: []int{0, 1}}, {Result: two}, {Heap: []int{0}, Result: two}, {Heap: []int{0, 1, 2}, Result: two},
		{Heap: []int{0, 1}, Result: two[:1]}, {Heap: []int{0, 1}, Result: [][]int{{0}, {0}, {0}}}, {Heap: []int{0, 1}, Result: [][]int{{0}, {0}, nil}},
		{Heap: []int{0, 1}, Result: [][]int{nil, {0}}}, {Heap: []int{0, 1}, Result: [][]int{{0}, {}}}, {Heap: []int{0, 1}, Result: [][]int{{0, 0}, {0}}}, {Heap: []int{0, 1}, Result: [][]int{{0}, {0, none}}},
	}
	for _, d := range []int{-1, -2, 4, 5, 8, 10, 255, 256 + 1, 1 << 32, -1 << 32, math.MinInt, math.MaxInt} {
		l = append(l, api.Summary{Heap: []int{d, 1}, Result: two}, api.Summary{Heap: []int{none, d}, Result: two},
			api.Summary{Heap: []int{0, 1}, Result: [][]int{{d}, {1}}}, api.Summary{Heap: []int{0, 1}, Result: [][]int{{3}, {d}}})
	}
	return l
}

func TestSummariesThatAreWrong(t *testing.T) {
	g := head(2, 1, 2)
	f := with(head(0, 0, 2), call(1, []int{0, 1}, []int{0}), ret())
	deaf := with(f, api.Instr{Op: api.Jump, N: 0})
	two := [][]int{{0}, {none}}
	passes(t, "a right summary", program(0, f, g), 0, []api.Summary{{}, {Heap: []int{3, 0}, Result: two}})
	for _, s := range wrongSummaries() {
		refused(t, "the summary of a callee", program(0, f, g), 0, []api.Summary{{}, s})
		refused(t, "the summary of a later callee", program(0, with(f, call(2, nil, nil), call(1, []int{0, 1}, []int{0}), ret()), g, head(0, 0, 0)), 0, []api.Summary{{}, s, {}})
		refused(t, "the summary of itself", program(0, with(g, call(0, []int{0, 1}, []int{0}), ret(0))), 0, []api.Summary{s})
		passes(t, "the summary of one that is not called", program(0, deaf, g), 0, []api.Summary{{}, s})
		passes(t, "its own summary, though it does not call itself", program(0, with(g, ret(0))), 0, []api.Summary{s})
		passes(t, "the summary of a callee's callee", program(0, with(f, call(2, nil, nil), ret()), g, with(head(0, 0, 2), call(1, []int{0, 1}, []int{0}), ret())), 0, []api.Summary{{}, s, {}})
	}
	s := api.Summary{Heap: []int{1, 1}, Result: two}
	refused(t, "a summary of one without parameters", program(0, with(head(0, 0, 1), call(0, nil, nil), ret())), 0, []api.Summary{s})
}
