package plan_test

import (
	"math"
	"slices"
	"testing"

	"fugue/api"
	"fugue/plan"
)

// What a move brings, counted by hand: the caller's instructions behind it are told by the least budget that lets it be made.
func TestInstructions(t *testing.T) {
	for _, c := range []struct {
		what, call, callee string
		want               int // of a caller of three instructions
	}{
		{"no instruction but a Return", "f1()", fn(0, 0, 0, "return"), 2 + 1},
		{"a Return of one result", "v0 = f1()", fn(0, 1, 1, "return v0"), 2 + 1 + 2},
		{"a Return of four results", "v0, v1, v2, v3 = f1()", fn(0, 4, 1, "return v0, v0, v0, v0"), 2 + 1 + 5},
		{"a parameter", "f1(v0)", fn(1, 0, 1, "return"), 2 + 1 + 1},
		{"eight parameters", "f1(v0, v0, v0, v0, v0, v0, v0, v0)", fn(8, 0, 8, "return"), 2 + 8 + 1},
		{"eight parameters, four results", "v0, v1, v2, v3 = f1(v0, v0, v0, v0, v0, v0, v0, v0)", fn(8, 4, 8, "return v0, v1, v2, v3"), 2 + 8 + 5},
		{"unused variables", "f1()", fn(0, 0, 7, "return"), 2 + 7 + 1},
		{"parameters and unused variables", "v0 = f1(v0, v1)", fn(2, 1, 9, "return v8"), 2 + 9 + 2},
		{"as many variables as fit", "f1()", fn(0, 0, 251, "return"), 2 + 251 + 1},
		{"several Returns", "v0, v1 = f1(v0)", fn(1, 2, 2, "if v0 jump 2;return v0, v1;return v1, v0;return v0, v0"), 2 + 2 + 1 + 3*3},
		{"several Returns of nothing", "f1(v0)", fn(1, 0, 1, "if v0 jump 2;return;return"), 2 + 1 + 1 + 2},
		{"a Return that is not reached", "v0 = f1()", fn(0, 1, 1, "jump 0;return v0"), 2 + 1 + 1 + 2},
		{"no Return", "v0 = f1(v0)", fn(1, 1, 1, "jump 0"), 2 + 1 + 1},
		{"News", "f1()", fn(0, 0, 1, "v0 = new 1;v0 = new 8;v0 = new 3;return"), 2 + 1 + 3 + 1},
		{"each operation", "v0, v1 = f1(v0)", fn(1, 2, 2, "v0 = int 1;v0 = v1;v0 = v1 + v1;v0 = v1 < v1;v0 = new 1;v0 = v1.1;v0.1 = v1;v0 = g1;g1 = v0;print v0;if v0 jump 1;v0 = null;v0 = v1 == v1;f2(v0, v1);return v0, v1;jump 1"), 2 + 2 + 15 + 3},
	} {
		p := of(t, fn(0, 0, 4, "v0 = int 1;"+c.call+";return"), c.callee, fn(2, 0, 3, "return"))
		for _, callee := range []int{len(p.Funcs[1].Code), math.MaxInt} {
			first := func(function int) []api.Move {
				l, e := plan.Make(p, callee, function)
				if e != api.OK {
					t.Fatalf("P16.2: %s: error %d", c.what, e)
				}
				return slices.DeleteFunc(l, func(m api.Move) bool { return m.Func > 0 })
			}
			if l := first(c.want); !slices.Equal(l, moves(0, 1)) {
				t.Errorf("P16.2: %s: with just enough instructions, %d, want the move, not %v", c.what, c.want, l)
			}
			if l := first(c.want - 1); len(l) > 0 {
				t.Errorf("P16.2: %s: with one instruction too few, %d: %v", c.what, c.want-1, l)
			}
		}
		checked(t, c.what, p, moves(0, 1), api.OK)
	}
}

// Several moves of one function add up, those of other functions don't.
func TestMovesAddUp(t *testing.T) {
	p := of(t,
		fn(0, 0, 1, "v0 = f2(v0);v0 = f2(v0);f3();v0 = f2(v0);return"), // 5; a move of f2 makes 4 of one, one of f3 makes 3
		fn(0, 0, 1, "v0 = f2(v0);f3();return"),                         // 3
		fn(1, 1, 2, "return v0"),
		fn(0, 0, 2, "return"))
	for function, want := range map[int][]api.Move{
		4:  nil,
		5:  moves(1, 1),
		6:  moves(1, 0),
		7:  moves(0, 2, 1, 0),
		8:  moves(0, 0, 1, 0, 1, 1),
		9:  moves(0, 0, 1, 0, 1, 1),
		10: moves(0, 0, 0, 2, 1, 0, 1, 1),
		11: moves(0, 0, 0, 1, 1, 0, 1, 1),
		12: moves(0, 0, 0, 1, 1, 0, 1, 1),
		13: moves(0, 0, 0, 1, 0, 2, 1, 0, 1, 1),
		15: moves(0, 0, 0, 1, 0, 2, 1, 0, 1, 1),
		16: moves(0, 0, 0, 1, 0, 2, 0, 3, 1, 0, 1, 1),
	} {
		made(t, "moves that add up", p, 9, function, want)
	}
}

// A move that brings no more than the Call that it takes the place of: only the function itself must be within the budget.
func TestNothingMore(t *testing.T) {
	p := of(t, fn(0, 0, 0, "f1();f1();f1();return"), fn(0, 0, 0, "return"))
	made(t, "nothing more", p, 1, 4, moves(0, 0, 0, 1, 0, 2))
	made(t, "nothing more", p, 1, 3, nil)
}
