package inline_test

import (
	"testing"

	"fugue/api"
)

const twice = "v1 = v0 + v0;return v1"

func TestChaptersExamples(t *testing.T) {
	callee := fn(1, 1, 2, twice)
	p := of(t, fn(0, 0, 2, "v0 = int 3;v1 = f1(v0);print v1;return"), callee)
	becomes(t, "example 1", p, moves(0, 1),
		fn(0, 0, 4, "v0 = int 3;v2 = v0;v3 = null;v3 = v2 + v2;v1 = v3;jump 6;print v1;return"), callee)
	p = of(t, fn(0, 0, 2, "v0 = int 3;v1 = f1(v0);v1 = f1(v0);print v1;return"), callee)
	becomes(t, "example 2", p, moves(0, 1, 0, 2),
		fn(0, 0, 6, "v0 = int 3;v2 = v0;v3 = null;v3 = v2 + v2;v1 = v3;jump 6;v4 = v0;v5 = null;v5 = v4 + v4;v1 = v5;jump 11;print v1;return"), callee)
	p = of(t, fn(0, 0, 1, "v0 = f1();return"), fn(0, 1, 1, "v0 = f2();return v0"), fn(0, 1, 1, "v0 = int 7;return v0"))
	becomes(t, "example 3", p, moves(0, 0, 1, 0),
		fn(0, 0, 2, "v1 = null;v1 = f2();v0 = v1;jump 4;return"),
		fn(0, 1, 2, "v1 = null;v1 = int 7;v0 = v1;jump 4;return v0"))
}

// One move, of many kinds of callees; what becomes of the caller, written by hand.
func TestOneMove(t *testing.T) {
	for _, c := range []struct {
		what    string
		vars    int
		caller  string
		callee  string
		grown   int
		becomes string
		at      int
	}{
		{"nothing but a Return", 0, "f1();return", fn(0, 0, 0, "return"), 0, "jump 1;return", 0},
		{"no Return", 0, "f1();return", fn(0, 0, 0, "jump 0"), 0, "jump 0;return", 0},
		{"no Return, but a parameter and a result", 1, "v0 = f1(v0);return", fn(1, 1, 1, "jump 0"), 2, "v1 = v0;jump 1;return", 0},
		{"no result", 1, "v0 = int 1;f1(v0);return", fn(1, 0, 1, "print v0;return"), 2, "v0 = int 1;v1 = v0;print v1;jump 4;return", 1},
		{"a result of no parameter", 1, "v0 = f1();return", fn(0, 1, 1, "return v0"), 2, "v1 = null;v0 = v1;jump 3;return", 0},
		{"a result that is a parameter", 2, "v0 = f1(v1);return", fn(1, 1, 1, "return v0"), 3, "v2 = v1;v0 = v2;jump 3;return", 0},
		{"four results", 4, "v3, v2, v1, v0 = f1();return", fn(0, 4, 2, "return v0, v1, v1, v0"), 6, "v4 = null;v5 = null;v3 = v4;v2 = v5;v1 = v5;v0 = v4;jump 7;return", 0},
		{"eight parameters", 9, "f1(v1, v2, v3, v4, v5, v6, v7, v8);return", fn(8, 0, 8, "return"), 17, "v9 = v1;v10 = v2;v11 = v3;v12 = v4;v13 = v5;v14 = v6;v15 = v7;v16 = v8;jump 9;return", 0},
		{"several Returns", 3, "v1, v2 = f1(v0);print v1;return", fn(1, 2, 2, "if v0 jump 2;return v0, v1;return v1, v0;return v0, v0"), 5,
			"v3 = v0;v4 = null;if v3 jump 6;v1 = v3;v2 = v4;jump 12;v1 = v4;v2 = v3;jump 12;v1 = v3;v2 = v3;jump 12;print v1;return", 0},
		{"several Returns of nothing", 1, "f1(v0);return", fn(1, 0, 1, "if v0 jump 2;return;return"), 2, "v1 = v0;if v1 jump 3;jump 4;jump 4;return", 0},
		{"results that are thrown away", 1, "v0, v0 = f1();print v0;return", fn(0, 2, 2, "v0 = int 1;v1 = int 2;return v0, v1"), 3,
			"v1 = null;v2 = null;v1 = int 1;v2 = int 2;v0 = v1;v0 = v2;jump 7;print v0;return", 0},
		{"unused variables", 0, "f1();return", fn(0, 0, 3, "return"), 3, "v0 = null;v1 = null;v2 = null;jump 4;return", 0},
		{"parameters and unused variables", 2, "f1(v1, v0);return", fn(2, 0, 4, "return"), 6, "v2 = v1;v3 = v0;v4 = null;v5 = null;jump 5;return", 0},
		{"News", 1, "v0 = f1();return", fn(0, 1, 2, "v0 = new 1;v1 = new 8;v0.0 = v1;return v0"), 3, "v1 = null;v2 = null;v1 = new 1;v2 = new 8;v1.0 = v2;v0 = v1;jump 7;return", 0},
		{"calls of its own", 1, "f1(v0);return", fn(1, 0, 2, "f2();v0, v1 = f3(v1, v0);return"), 3, "v1 = v0;v2 = null;f2();v1, v2 = f3(v2, v1);jump 5;return", 0},
		{"a call of itself", 1, "v0 = f1(v0);return", fn(1, 1, 1, "v0 = f1(v0);return v0"), 2, "v1 = v0;v1 = f1(v1);v0 = v1;jump 4;return", 0},
		{"Rets that are Args", 2, "v0, v1 = f1(v1, v0);return", fn(2, 2, 2, "return v0, v1"), 4, "v2 = v1;v3 = v0;v0 = v2;v1 = v3;jump 5;return", 0},
		{"the same variable twice among Args, and as the result", 1, "v0 = f1(v0, v0);return", fn(2, 1, 2, "v0 = v0 + v1;return v0"), 3, "v1 = v0;v2 = v0;v1 = v1 + v2;v0 = v1;jump 5;return", 0},
		{"a caller with an Addr", 2, "v1 = &v0;v0 = f1(v1);return", fn(1, 1, 2, "v1 = v0.0;v0.0 = v1;return v1"), 4, "v1 = &v0;v2 = v1;v3 = null;v3 = v2.0;v2.0 = v3;v0 = v3;jump 7;return", 1},
		{"a call that no jump reaches", 0, "return;f1();jump 1", fn(0, 0, 1, "return"), 1, "return;v0 = null;jump 3;jump 1", 1},
		{"code behind the last Return of the callee", 0, "f1();return", fn(0, 0, 1, "return;print v0;jump 1"), 1, "v0 = null;jump 4;print v0;jump 2;return", 0},
	} {
		p := of(t, fn(0, 0, c.vars, c.caller), c.callee, fn(0, 0, 0, "return"), fn(2, 2, 2, "return v1, v0"))
		becomes(t, c.what, p, moves(0, c.at), fn(0, 0, c.grown, c.becomes))
		runsAlike(t, c.what, p, moves(0, c.at))
	}
}

// Several moves of one function: their variables stand one behind the other, in the order of the places, as many as each callee has.
func TestSeveralMoves(t *testing.T) {
	p := of(t,
		fn(0, 0, 1, "f1();f2(v0);v0 = f3();f1();v0 = f3();f4();return"),
		fn(0, 0, 2, "print v1;return"),
		fn(1, 0, 1, "print v0;return"),
		fn(0, 1, 1, "return v0"),
		fn(0, 0, 0, "return"))
	becomes(t, "each", p, moves(0, 0, 0, 1, 0, 2, 0, 3, 0, 4, 0, 5),
		fn(0, 0, 8, "v1 = null;v2 = null;print v2;jump 4;v3 = v0;print v3;jump 7;v4 = null;v0 = v4;jump 10;v5 = null;v6 = null;print v6;jump 14;v7 = null;v0 = v7;jump 17;jump 18;return"))
	becomes(t, "some", p, moves(0, 1, 0, 4),
		fn(0, 0, 3, "f1();v1 = v0;print v1;jump 4;v0 = f3();f1();v2 = null;v0 = v2;jump 9;f4();return"))
	becomes(t, "the last", p, moves(0, 5), fn(0, 0, 1, "f1();f2(v0);v0 = f3();f1();v0 = f3();jump 6;return"))
	becomes(t, "the first", p, moves(0, 0), fn(0, 0, 3, "v1 = null;v2 = null;print v2;jump 4;f2(v0);v0 = f3();f1();v0 = f3();f4();return"))
}

// Moves of several functions: each has its own variables, places and jumps.
func TestSeveralFunctions(t *testing.T) {
	p := of(t,
		fn(0, 0, 1, "v0 = f2();f1(v0);return"),
		fn(1, 0, 3, "v1 = f2();if v1 jump 0;v2 = f2();print v2;jump 2"),
		fn(0, 1, 1, "v0 = g1;if v0 jump 0;return v0"),
		fn(0, 1, 0, "f0();jump 0"))
	becomes(t, "moves of several functions", p, moves(0, 0, 1, 0, 1, 2, 3, 0),
		fn(0, 0, 2, "v1 = null;v1 = g1;if v1 jump 1;v0 = v1;jump 5;f1(v0);return"),
		fn(1, 0, 5, "v3 = null;v3 = g1;if v3 jump 1;v1 = v3;jump 5;if v1 jump 0;v4 = null;v4 = g1;if v4 jump 7;v2 = v4;jump 11;print v2;jump 6"),
		fn(0, 1, 1, "v0 = g1;if v0 jump 0;return v0"),
		fn(0, 1, 1, "v0 = null;v0 = f2();f1(v0);jump 4;jump 0"))
	becomes(t, "moves of the second alone", p, moves(1, 2),
		fn(0, 0, 1, "v0 = f2();f1(v0);return"),
		fn(1, 0, 4, "v1 = f2();if v1 jump 0;v3 = null;v3 = g1;if v3 jump 3;v2 = v3;jump 7;print v2;jump 2"))
}

// A callee that has moves of its own, and is moved into elsewhere: its old body is put in, whichever of the functions stands first.
func TestOldBodies(t *testing.T) {
	p := of(t,
		fn(0, 0, 0, "f2();f1();return"),
		fn(0, 0, 1, "v0 = f3();f2();return"),
		fn(0, 0, 1, "v0 = f3();print v0;return"),
		fn(0, 1, 1, "v0 = int 5;return v0"))
	becomes(t, "callees behind", p, moves(0, 0, 0, 1, 1, 0, 1, 1, 2, 0),
		fn(0, 0, 2, "v0 = null;v0 = f3();print v0;jump 4;v1 = null;v1 = f3();f2();jump 8;return"),
		fn(0, 0, 3, "v1 = null;v1 = int 5;v0 = v1;jump 4;v2 = null;v2 = f3();print v2;jump 8;return"),
		fn(0, 0, 2, "v1 = null;v1 = int 5;v0 = v1;jump 4;print v0;return"))
	p = of(t,
		fn(0, 0, 0, "return"),
		fn(0, 1, 1, "v0 = int 5;return v0"),
		fn(0, 0, 1, "v0 = f1();print v0;return"),
		fn(0, 0, 0, "f2();f0();return"))
	becomes(t, "callees ahead", p, moves(2, 0, 3, 0, 3, 1),
		fn(0, 0, 0, "return"),
		fn(0, 1, 1, "v0 = int 5;return v0"),
		fn(0, 0, 2, "v1 = null;v1 = int 5;v0 = v1;jump 4;print v0;return"),
		fn(0, 0, 1, "v0 = null;v0 = f1();print v0;jump 4;jump 5;return"))
}

// What was inlined once may be once more, until nothing is left.
func TestAgainAndAgain(t *testing.T) {
	p := of(t, fn(0, 0, 1, "v0 = f1();print v0;return"), fn(0, 1, 1, "v0 = f2();return v0"), fn(0, 1, 1, "v0 = f3();return v0"), fn(0, 1, 1, "v0 = int 4;return v0"))
	q := becomes(t, "once", p, every(t, p),
		fn(0, 0, 2, "v1 = null;v1 = f2();v0 = v1;jump 4;print v0;return"),
		fn(0, 1, 2, "v1 = null;v1 = f3();v0 = v1;jump 4;return v0"),
		fn(0, 1, 2, "v1 = null;v1 = int 4;v0 = v1;jump 4;return v0"))
	q = becomes(t, "twice", q, every(t, q),
		fn(0, 0, 4, "v1 = null;v2 = null;v3 = null;v3 = null;v3 = int 4;v2 = v3;jump 7;v1 = v2;jump 9;v0 = v1;jump 11;print v0;return"),
		fn(0, 1, 3, "v1 = null;v2 = null;v2 = int 4;v1 = v2;jump 5;v0 = v1;jump 7;return v0"))
	if l := every(t, q); len(l) > 0 {
		t.Errorf("P17.2: calls are left: %v", l)
	}
	if q := applied(t, "three times", q, nil); len(q.Funcs[0].Code) != 13 {
		t.Errorf("P17.2: %d instructions", len(q.Funcs[0].Code))
	}
	runsAs(t, "again and again", p, q)
}

// Each number that is none of a variable stays: those of ints, fields, globals and functions.
func TestNumbersStay(t *testing.T) {
	callee := fn(0, 0, 1, "v0 = int -9223372036854775808;v0 = int 9223372036854775807;v0 = int 0;v0 = new 2;v0 = v0.1;v0.1 = v0;v0 = g1;g1 = v0;f2();return")
	p := of(t, fn(0, 0, 5, "f1();return"), callee, fn(0, 0, 0, "return"))
	becomes(t, "numbers", p, moves(0, 0),
		fn(0, 0, 6, "v5 = null;v5 = int -9223372036854775808;v5 = int 9223372036854775807;v5 = int 0;v5 = new 2;v5 = v5.1;v5.1 = v5;v5 = g1;g1 = v5;f2();jump 11;return"))
}

// named: the fields that an operation names, as letters.
var named = map[int]string{api.Int: "RN", api.Null: "R", api.Copy: "RS", api.Add: "RST", api.Less: "RST", api.Same: "RST", api.New: "RN", api.Load: "RSN", api.Store: "RSN",
	api.Get: "RN", api.Set: "SN", api.Call: "NAB", api.Print: "S", api.Jump: "N", api.If: "SN"}

// Each operation that a callee may have, with another variable in each of its fields: these alone become others.
func TestOperations(t *testing.T) {
	for op := api.Int; op <= api.Same; op++ {
		if op == api.Addr || op == api.Return {
			continue
		}
		has := func(letter byte) int { // 1, if it names it
			for i := range named[op] {
				if named[op][i] == letter {
					return 1
				}
			}
			return 0
		}
		x := api.Instr{Op: op, R: 1 * has('R'), S: 2 * has('S'), T: 3 * has('T'), N: 2 * has('N')}
		if op == api.Call {
			x.Args, x.Rets = []int{3, 2, 2}, []int{0, 1}
		}
		p := program(
			plainFunc(7, api.Instr{Op: api.Print, S: 6}, call(1), ret()),
			plainFunc(4, x, api.Instr{Op: api.Null, R: 3}, ret()),
			api.Func{Params: 3, Results: 2, Vars: 3, Code: []api.Instr{ret(0, 1)}})
		p.Globals = 3
		want := x
		want.R, want.S, want.T = x.R+7*has('R'), x.S+7*has('S'), x.T+7*has('T')
		if op == api.Call {
			want.Args, want.Rets = []int{10, 9, 9}, []int{7, 8}
		}
		if op == api.Jump || op == api.If {
			want.N = 1 + 4 + 2
		}
		q := applied(t, "each operation", p, moves(0, 1))
		if got := q.Funcs[0].Code[5]; !same(got, want) {
			t.Errorf("P17.2: operation %d: %+v becomes %+v, want %+v", op, x, got, want)
		}
		if got := q.Funcs[1].Code[0]; !same(got, x) {
			t.Errorf("P17.2: operation %d: %+v becomes %+v in the callee itself", op, x, got)
		}
	}
}

// Each operation in a caller, ahead of a move and behind it: the instruction itself, but for its jump.
func TestOperationsOfTheCaller(t *testing.T) {
	p := of(t, fn(1, 2, 3, "v0 = int 7;v1 = v2;v0 = v1 + v2;v2 = v1 < v0;v1 = &v2;v2 = new 2;v0 = v1.1;v2.1 = v0;v1 = g1;g1 = v2;v0, v2 = f1(v1);print v1;if v2 jump 11;v1 = null;v0 = v2 == v1;return v0, v1;v1, v2 = f1(v0);jump 16"),
		fn(1, 2, 1, "return v0, v0"))
	becomes(t, "each operation ahead", p, moves(0, 16),
		fn(1, 2, 4, "v0 = int 7;v1 = v2;v0 = v1 + v2;v2 = v1 < v0;v1 = &v2;v2 = new 2;v0 = v1.1;v2.1 = v0;v1 = g1;g1 = v2;v0, v2 = f1(v1);print v1;if v2 jump 11;v1 = null;v0 = v2 == v1;return v0, v1;v3 = v0;v1 = v3;v2 = v3;jump 20;jump 16"))
	becomes(t, "each operation around", p, moves(0, 10),
		fn(1, 2, 4, "v0 = int 7;v1 = v2;v0 = v1 + v2;v2 = v1 < v0;v1 = &v2;v2 = new 2;v0 = v1.1;v2.1 = v0;v1 = g1;g1 = v2;v3 = v1;v0 = v3;v2 = v3;jump 14;print v1;if v2 jump 14;v1 = null;v0 = v2 == v1;return v0, v1;v1, v2 = f1(v0);jump 19"))
}
