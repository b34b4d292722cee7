package calls_test

import (
	"slices"
	"testing"

	"fugue/api"
	"fugue/calls"
	"fugue/code"
	"fugue/text"
)

func ret(args ...int) api.Instr { return api.Instr{Op: api.Return, Args: args} }

// wrong: a program whose first function has two variables, this instruction and a Return, with a callee of one parameter and one result.
func wrong(i api.Instr) api.Program {
	return api.Program{Globals: 1, Funcs: []api.Func{
		{Vars: 2, Code: []api.Instr{i, ret()}},
		{Params: 1, Results: 1, Vars: 1, Code: []api.Instr{ret(0)}},
	}}
}

// tooManyVars: more locations than there may be, all of them variables.
func tooManyVars() api.Program {
	var p api.Program
	for range api.MaxLocs/api.MaxVars + 1 {
		p.Funcs = append(p.Funcs, api.Func{Vars: api.MaxVars, Code: []api.Instr{ret()}})
	}
	return p
}

func TestProgramsThatAreNotRight(t *testing.T) {
	for _, c := range []struct {
		what string
		p    api.Program
		want api.Errno
	}{
		{"no function", api.Program{}, api.ErrHead},
		{"a global too many", api.Program{Globals: api.MaxGlobals + 1, Funcs: []api.Func{{Code: []api.Instr{ret()}}}}, api.ErrGlobal},
		{"globals below 0", api.Program{Globals: -1, Funcs: []api.Func{{Code: []api.Instr{ret()}}}}, api.ErrGlobal},
		{"a function too many", program(make([][]int, api.MaxFuncs+1)...), api.ErrHead},
		{"a parameter that is no variable", api.Program{Funcs: []api.Func{{Params: 1, Code: []api.Instr{ret()}}}}, api.ErrHead},
		{"variables below 0", api.Program{Funcs: []api.Func{{Vars: -1, Code: []api.Instr{ret()}}}}, api.ErrHead},
		{"no instruction", api.Program{Funcs: []api.Func{{}}}, api.ErrEnd},
		{"a call at the end", api.Program{Funcs: []api.Func{{Code: []api.Instr{{Op: api.Call}}}}}, api.ErrEnd},
		{"too many locations", tooManyVars(), api.ErrTooLarge},
		{"no such operation", wrong(api.Instr{Op: 18}), api.ErrOp},
		{"the operation 0", wrong(api.Instr{}), api.ErrOp},
		{"a field that Call does not name", wrong(api.Instr{Op: api.Call, R: 1, N: 1, Args: []int{0}, Rets: []int{1}}), api.ErrArg},
		{"no such variable", wrong(api.Instr{Op: api.Print, S: 2}), api.ErrVar},
		{"no such argument", wrong(api.Instr{Op: api.Call, N: 1, Args: []int{2}, Rets: []int{1}}), api.ErrVar},
		{"a New without fields", wrong(api.Instr{Op: api.New}), api.ErrField},
		{"no such global", wrong(api.Instr{Op: api.Set, N: 1}), api.ErrGlobal},
		{"a call of a function that is not there", wrong(api.Instr{Op: api.Call, N: 2}), api.ErrFunc},
		{"a call of the function -1", wrong(api.Instr{Op: api.Call, N: -1}), api.ErrFunc},
		{"a call with too few arguments", wrong(api.Instr{Op: api.Call, N: 1, Rets: []int{1}}), api.ErrArity},
		{"a call with too many results", wrong(api.Instr{Op: api.Call, N: 1, Args: []int{0}, Rets: []int{1, 0}}), api.ErrArity},
		{"a jump out of the function", wrong(api.Instr{Op: api.Jump, N: 2}), api.ErrJump},
		{"the first of two violations", api.Program{Funcs: []api.Func{{Code: []api.Instr{{Op: api.Call, N: 9}, {Op: api.Jump, N: 9}}}}}, api.ErrFunc},
	} {
		if e := code.Check(c.p); e != c.want {
			t.Errorf("%s: code.Check says %d, want %d", c.what, e, c.want)
		}
		if g, e := calls.New(c.p); g != nil || e != c.want {
			t.Errorf("P5.1 %s: %v, %d; want no graph and %d", c.what, g, e, c.want)
		}
	}
}

// Each program that is one change away from a right one has a graph just if code.Check lets it pass.
func TestNewAsCheckSays(t *testing.T) {
	for op := -1; op <= api.Same+1; op++ {
		for _, i := range []api.Instr{
			{Op: op}, {Op: op, N: 1}, {Op: op, N: 2}, {Op: op, R: 1}, {Op: op, S: 2}, {Op: op, T: 1},
			{Op: op, N: 1, Args: []int{1}, Rets: []int{0}}, {Op: op, Args: []int{0}}, {Op: op, Rets: []int{1}}, {Op: op, R: 1, S: 1, N: 9},
		} {
			want := code.Check(wrong(i))
			g, e := calls.New(wrong(i))
			if e != want || (g == nil) != (want != api.OK) {
				t.Errorf("P5.1 %+v: %v, %d; Check says %d", i, g, e, want)
			}
		}
	}
}

func TestLimitsThatAreWell(t *testing.T) {
	p := tooManyVars()
	p.Funcs = p.Funcs[1:]
	if g := graph(t, p); g.Len() != len(p.Funcs) {
		t.Errorf("P5.1: %d components of %d functions", g.Len(), len(p.Funcs))
	}
	full := make([]int, api.MaxCode-1)
	for i := range full {
		full[i] = i % 3
	}
	tells(t, "a function full of calls", program(full, nil, []int{0}), [][]int{{1}, {0, 2}}, [][]int{nil, {0}})
}

// A number that is no callee's is not taken for one, whatever the operation.
func TestOnlyCallsCall(t *testing.T) {
	p, e, line := text.Parse(`globals 3
func params 0 results 0 vars 3
v0 = int 2
v1 = int 1
v2 = v0 + v1
v1 = v0 < v2
v1 = v0 == v2
v1 = &v2
v2 = new 2
v1 = v2.1
v2.1 = v1
v1 = g2
g1 = v2
print v1
v0 = null
if v0 jump 2
jump 1
func params 1 results 1 vars 2
v1 = v0
return v1
func params 0 results 0 vars 0
return`)
	if e != api.OK {
		t.Fatalf("a test's program is not right: %d at line %d", e, line)
	}
	tells(t, "no calls", p, [][]int{{0}, {1}, {2}}, make([][]int, 3))
}

func TestCallsAnywhere(t *testing.T) {
	p, e, line := text.Parse(`globals 0
func params 2 results 1 vars 4
v3 = f1(v0)
return v3
f2(v1, v0)
v2, v3 = f3()
return v2
func params 1 results 1 vars 1
if v0 jump 3
jump 0
f2(v0, v0)
return v0
func params 2 results 0 vars 2
jump 0
func params 0 results 2 vars 1
return v0, v0`)
	if e != api.OK {
		t.Fatalf("a test's program is not right: %d at line %d", e, line)
	}
	tells(t, "calls with arguments and results, reached or not", p, [][]int{{2}, {1}, {3}, {0}}, [][]int{nil, {0}, nil, {0, 1, 2}})
}

// A call that no run comes to counts as any other: behind a Return, behind a Jump, in a ring of which nothing is reached.
func TestCallsThatAreNeverReached(t *testing.T) {
	call := func(f int) api.Instr { return api.Instr{Op: api.Call, N: f} }
	jump := func(n int) api.Instr { return api.Instr{Op: api.Jump, N: n} }
	p := api.Program{Funcs: []api.Func{
		{Code: []api.Instr{ret(), call(1), ret()}},
		{Code: []api.Instr{jump(2), call(0), ret()}},
		{Code: []api.Instr{jump(0), call(3), jump(1)}},
		{Code: []api.Instr{call(2), ret()}},
	}}
	tells(t, "never reached", p, [][]int{{0, 1}, {2, 3}}, make([][]int, 2))
	p.Funcs[1].Code = slices.Delete(p.Funcs[1].Code, 1, 2)
	p.Funcs[1].Code[0].N = 1
	tells(t, "one call fewer", p, [][]int{{1}, {0}, {2, 3}}, [][]int{nil, {0}, nil})
}

func TestANilGraph(t *testing.T) {
	var g *calls.Graph
	if n := g.Len(); n != 0 {
		t.Errorf("P5.2: Len of a nil graph: %d", n)
	}
	for _, n := range []int{0, 1, -1, 65535, 1<<63 - 1, -1 << 63} {
		if g.Of(n) != -1 || len(g.Members(n)) != 0 || len(g.Callees(n)) != 0 || len(g.Callers(n)) != 0 {
			t.Errorf("P5.2: a nil graph tells %d, %v, %v, %v of %d", g.Of(n), g.Members(n), g.Callees(n), g.Callers(n), n)
		}
	}
}
