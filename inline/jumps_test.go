package inline_test

import "testing"

// Jumps in a callee: ahead, back, to the first and to the last of its places, over Returns that take more room, and to oneself.
func TestJumpsOfTheCallee(t *testing.T) {
	p := of(t, fn(0, 0, 1, "v0 = f1(v0);return"), fn(1, 1, 2, "if v0 jump 3;v1 = int 1;jump 5;if v1 jump 0;jump 1;return v1"))
	becomes(t, "jumps of the callee", p, moves(0, 0),
		fn(0, 0, 3, "v1 = v0;v2 = null;if v1 jump 5;v2 = int 1;jump 7;if v2 jump 2;jump 3;v0 = v2;jump 9;return"))
	p = of(t, fn(0, 0, 3, "v0, v1, v2 = f1(v0);return"), fn(1, 3, 1, "if v0 jump 2;return v0, v0, v0;jump 1"))
	becomes(t, "over a Return", p, moves(0, 0),
		fn(0, 0, 4, "v3 = v0;if v3 jump 6;v0 = v3;v1 = v3;v2 = v3;jump 7;jump 2;return"))
	p = of(t, fn(0, 0, 1, "print v0;f1(v0);return"), fn(1, 0, 1, "if v0 jump 0;if v0 jump 1;if v0 jump 3;jump 3"))
	becomes(t, "to oneself", p, moves(0, 1),
		fn(0, 0, 2, "print v0;v1 = v0;if v1 jump 2;if v1 jump 3;if v1 jump 5;jump 5;return"))
}

// Jumps of the caller: over a move, to a move, back behind it, to the last place.
func TestJumpsOfTheCaller(t *testing.T) {
	p := of(t, fn(1, 0, 2, "if v0 jump 3;v1 = f1(v0);if v1 jump 1;if v0 jump 2;if v0 jump 6;jump 1;return"), fn(1, 1, 1, "return v0"))
	becomes(t, "jumps of the caller", p, moves(0, 1),
		fn(1, 0, 3, "if v0 jump 5;v2 = v0;v1 = v2;jump 4;if v1 jump 1;if v0 jump 4;if v0 jump 8;jump 1;return"))
	p = of(t, fn(0, 0, 1, "f1();f1();f1();if v0 jump 1;if v0 jump 2;jump 0"), fn(0, 0, 1, "return"))
	becomes(t, "to each of several moves", p, moves(0, 0, 0, 1, 0, 2),
		fn(0, 0, 4, "v1 = null;jump 2;v2 = null;jump 4;v3 = null;jump 6;if v0 jump 2;if v0 jump 4;jump 0"))
	becomes(t, "to one of several calls that is a move", p, moves(0, 1),
		fn(0, 0, 2, "f1();v1 = null;jump 3;f1();if v0 jump 1;if v0 jump 3;jump 0"))
	p = of(t, fn(1, 0, 1, "jump 3;f1();return;if v0 jump 1;jump 2"), fn(0, 0, 0, "return"))
	becomes(t, "over a move that takes no more room", p, moves(0, 1), fn(1, 0, 1, "jump 3;jump 2;return;if v0 jump 1;jump 2"))
}

// The same places' numbers mean the caller's in the caller and the callee's in each move of it.
func TestJumpsOfBoth(t *testing.T) {
	p := of(t, fn(0, 0, 1, "jump 2;f1(v0);f1(v0);jump 1"), fn(1, 0, 1, "jump 2;print v0;if v0 jump 1;return"))
	becomes(t, "jumps of both", p, moves(0, 1, 0, 2),
		fn(0, 0, 3, "jump 6;v1 = v0;jump 4;print v1;if v1 jump 3;jump 6;v2 = v0;jump 9;print v2;if v2 jump 8;jump 11;jump 1"))
}
