package run_test

import (
	"math"
	"slices"
	"strings"
	"testing"

	"fugue/api"
)

// printed: a program of one function prints this and is done, wherever its cells lie.
func printed(t *testing.T, lines []string, want ...api.Value) {
	t.Helper()
	p := body(t, lines...)
	runsAlike(t, strings.Join(lines, "; "), p, api.Trace{Prints: want, Steps: len(p.Funcs[0].Code)})
}

func TestIntNullCopy(t *testing.T) {
	printed(t, []string{"v0 = int 7", "print v0", "v0 = int -9223372036854775808", "print v0", "v0 = int 0", "print v0"}, num(7), num(math.MinInt), num(0))
	printed(t, []string{"print v9", "v9 = int 3", "v9 = null", "print v9"}, null, null)
	printed(t, []string{"v1 = int 4", "v2 = v1", "v1 = int 5", "print v2", "print v1"}, num(4), num(5))
	printed(t, []string{"v1 = int 4", "v1 = v1", "print v1", "v1 = v3", "print v1"}, num(4), null)
	printed(t, []string{"v1 = new 2", "v2 = v1", "v3 = int 8", "v2.1 = v3", "v4 = v1.1", "print v4", "print v2"}, num(8), some)
}

// each: a pair of values, as the lines that make them v0 and v1, with what is made of them.
var each = []struct {
	a, b            string
	sum, less, same int
}{
	{"int 2", "int 3", 5, 1, 0},
	{"int 3", "int 2", 5, 0, 0},
	{"int 3", "int 3", 6, 0, 1},
	{"int -1", "int 0", -1, 1, 0},
	{"int 0", "int -1", -1, 0, 0},
	{"int 9223372036854775807", "int 1", math.MinInt, 0, 0},
	{"int -9223372036854775808", "int -1", math.MaxInt, 1, 0},
	{"int -9223372036854775808", "int -9223372036854775808", 0, 0, 1},
	{"int -9223372036854775808", "int 9223372036854775807", -1, 1, 0},
	{"int 9223372036854775807", "int -9223372036854775808", -1, 0, 0},
	{"null", "null", 0, 0, 1},
	{"null", "int 0", 0, 0, 0},
	{"int 0", "null", 0, 0, 0},
	{"null", "int 1", 1, 1, 0},
	{"int -4", "null", -4, 1, 0},
	{"null", "int -4", -4, 0, 0},
	{"new 1", "int 5", 5, 1, 0},
	{"int 5", "new 1", 5, 0, 0},
	{"int -5", "new 1", -5, 1, 0},
	{"new 1", "int 0", 0, 0, 0},
	{"new 1", "int 11", 11, 1, 0}, // the number of the cell
	{"int 11", "new 1", 11, 0, 0},
	{"new 1", "null", 0, 0, 0},
	{"null", "new 1", 0, 0, 0},
	{"new 1", "new 1", 0, 0, 0},
	{"new 1", "v0", 0, 0, 1},
	{"&v5", "&v5", 0, 0, 1},
	{"&v5", "&v6", 0, 0, 0},
	{"&v0", "new 1", 0, 0, 0},
	{"&v0", "v0.0", 0, 0, 1}, // it holds its own address
}

func TestAddLessSame(t *testing.T) {
	for _, c := range each {
		first := []string{"v0 = " + c.a, "v1 = " + c.b}
		printed(t, append(first, "v2 = v0 + v1", "print v2", "v2 = v1 + v0", "print v2"), num(c.sum), num(c.sum))
		printed(t, append(first, "v2 = v0 < v1", "print v2"), num(c.less))
		printed(t, append(first, "v2 = v0 == v1", "print v2", "v2 = v1 == v0", "print v2"), num(c.same), num(c.same))
		printed(t, append(first, "v0 = v0 + v1", "print v0"), num(c.sum))
		printed(t, append(first, "v1 = v0 < v1", "print v1"), num(c.less))
		printed(t, append(first, "v1 = v0 == v1", "print v1"), num(c.same))
	}
	printed(t, []string{"v0 = int -3", "v0 = v0 + v0", "print v0", "v1 = v0 < v0", "print v1", "v1 = v0 == v0", "print v1"}, num(-6), num(0), num(1))
}

// A pointer to a cell that is gone is still a pointer to that cell.
func TestSameOfCellsThatAreGone(t *testing.T) {
	p := program(t, "func params 0 results 0 vars 4", "v0, v1 = f1()", "v2 = f2()", "v3 = v0 == v1", "print v3", "v3 = v0 == v2", "print v3", "v3 = v0 + v2", "print v3", "if v0 jump 10", "print v0", "return",
		"func params 0 results 2 vars 2", "v0 = &v1", "return v0, v0",
		"func params 0 results 1 vars 2", "v0 = &v1", "return v0")
	runsAlike(t, "pointers to what may be gone", p, api.Trace{Prints: []api.Value{num(1), num(0), num(0)}, Steps: 14})
}

func TestAddr(t *testing.T) {
	printed(t, []string{"v0 = int 4", "v1 = &v0", "v2 = v1.0", "print v2", "v3 = int 9", "v1.0 = v3", "print v0", "print v1"}, num(4), num(9), some)
	printed(t, []string{"v0 = &v0", "v1 = v0.0", "v2 = v1.0", "v3 = v2 == v0", "print v3"}, num(1))
	// to the variable of this frame, of each call another one
	p := program(t, "func params 0 results 0 vars 4", "v0 = f1()", "v1 = f1()", "v2 = v0 == v1", "print v2", "v2 = &v0", "v3 = v2 == v0", "print v3", "return",
		"func params 0 results 1 vars 1", "v0 = &v0", "return v0")
	runsAlike(t, "the address of a variable", p, api.Trace{Prints: []api.Value{num(0), num(0)}, Steps: 12})
}

func TestNewMakesACell(t *testing.T) {
	lines := []string{"v0 = new 8", "v1 = int 1"}
	for _, field := range "01234567" {
		lines = append(lines, "v1 = v0."+string(field), "print v1")
	}
	printed(t, lines, make([]api.Value, 8)...)
	// each time it runs another one
	p := body(t, "v2 = v1", "v1 = new 1", "v3 = v2 == v1", "print v3", "if v4 jump 7", "v4 = int 1", "jump 0")
	runsAlike(t, "a New twice", p, api.Trace{Prints: []api.Value{num(0), num(0)}, Steps: 13})
}

func TestNewOnTheHeapAndInTheFrame(t *testing.T) {
	p := program(t, "func params 0 results 0 vars 1", "f1()", "v0 = new 2", "return", "func params 0 results 0 vars 2", "v0 = new 1", "v1 = new 1", "return")
	for _, c := range []struct {
		vars, code []bool
		live       []int
	}{
		{[]bool{false, false}, []bool{false, false, false}, []int{1}},
		{[]bool{true, false}, []bool{false, false, false}, []int{1, 2}},
		{[]bool{false, true}, []bool{false, false, false}, []int{1, 3}},
		{[]bool{false, false}, []bool{true, false, false}, []int{1, 4}},
		{[]bool{false, false}, []bool{false, true, false}, []int{1, 5}},
		{[]bool{true, true}, []bool{false, true, true}, []int{1, 2, 3, 5}},
	} {
		h := inFrame(p)
		h.Vars[1], h.Code[1] = c.vars, c.code
		m := begun(t, p, h)
		steps(t, m, 3)
		if live := m.Memory().Live(); !slices.Equal(live, []int{1, 2, 3, 4, 5}) {
			t.Errorf("P4.2 %v, %v: ahead of the return %v are there", c.vars, c.code, live)
		}
		steps(t, m, 1)
		if live := m.Memory().Live(); !slices.Equal(live, c.live) {
			t.Errorf("P4.2 %v, %v: behind the return %v are there, want %v", c.vars, c.code, live, c.live)
		}
		steps(t, m, 1)
		if _, e := m.Memory().Load(ptr(6), 1); e != api.OK {
			t.Errorf("P4.2: a New of two fields made a cell without the field 1: %d", e)
		}
		if _, e := m.Memory().Load(ptr(6), 2); e != api.ErrNoField {
			t.Errorf("P4.2: a New of two fields made a cell with the field 2: %d", e)
		}
	}
}

func TestLoadAndStore(t *testing.T) {
	printed(t, []string{"v0 = new 3", "v1 = int 1", "v2 = int 2", "v0.0 = v1", "v0.2 = v2", "v3 = v0.0", "print v3", "v3 = v0.1", "print v3", "v3 = v0.2", "print v3", "v0.2 = v4", "v3 = v0.2", "print v3"}, num(1), null, num(2), null)
	printed(t, []string{"v0 = new 8", "v0.7 = v0", "v1 = v0.7", "v2 = v1.7", "v3 = v2 == v0", "print v3", "v0 = v0.7", "v3 = v0 == v1", "print v3"}, num(1), num(1))
	// a variable through its address, the one that the instruction itself names too
	printed(t, []string{"v0 = int 5", "v1 = &v0", "v2 = &v1", "v3 = v2.0", "v4 = v3.0", "print v4", "v2.0 = v4", "print v1"}, num(5), num(5))
	printed(t, []string{"v1 = &v1", "v2 = int 3", "v1.0 = v2", "print v1"}, num(3))
}

func TestGetAndSet(t *testing.T) {
	printed(t, []string{"v0 = g3", "print v0", "v0 = int 6", "g3 = v0", "v0 = int 7", "v1 = g3", "print v1", "v1 = g2", "print v1", "g3 = v5", "v1 = g3", "print v1"}, null, num(6), null, null)
	p := program(t, "func params 0 results 0 vars 1", "v0 = int 1", "g0 = v0", "f1()", "v0 = g1", "print v0", "return",
		"func params 0 results 0 vars 1", "v0 = g0", "v0 = v0 + v0", "g1 = v0", "return")
	runsAlike(t, "globals go through frames", p, api.Trace{Prints: []api.Value{num(2)}, Steps: 10})
}

func TestPrintTellsNoNumberOfACell(t *testing.T) {
	printed(t, []string{"v0 = new 1", "print v0", "v0 = &v3", "print v0", "v0 = int 12", "print v0", "print v1", "print v0"}, some, some, num(12), null, num(12))
}

func TestJump(t *testing.T) {
	p := body(t, "jump 3", "print v0", "jump 5", "v0 = int 1", "jump 1", "print v0")
	runsAlike(t, "jumps", p, api.Trace{Prints: []api.Value{num(1), num(1)}, Steps: 7})
	p = program(t, "func params 0 results 0 vars 1", "jump 2", "return", "jump 1")
	runsAlike(t, "a jump as the last", p, api.Trace{Steps: 3})
}

func TestIf(t *testing.T) {
	for _, c := range []struct {
		value string
		jumps bool
	}{
		{"null", false}, {"int 0", false}, {"int 1", true}, {"int -1", true}, {"int -9223372036854775808", true},
		{"int 2", true}, {"new 1", true}, {"&v0", true}, {"&v1", true}, {"g0", false}, {"v1", false},
	} {
		p := body(t, "v0 = "+c.value, "if v0 jump 4", "v1 = int 1", "print v1", "print v0")
		want := api.Trace{Steps: 6, Prints: []api.Value{num(1)}}
		if c.jumps {
			want = api.Trace{Steps: 4}
		}
		switch v := p.Funcs[0].Code[0]; {
		case v.Op == api.Int:
			want.Prints = append(want.Prints, num(v.N))
		case c.jumps:
			want.Prints = append(want.Prints, some)
		default:
			want.Prints = append(want.Prints, null)
		}
		runsAlike(t, "if "+c.value, p, want)
	}
	p := body(t, "v0 = int -3", "v1 = int 1", "v0 = v0 + v1", "print v0", "if v0 jump 2")
	runsAlike(t, "a loop", p, api.Trace{Prints: []api.Value{num(-2), num(-1), num(0)}, Steps: 12})
	p = body(t, "v0 = int 1", "if v0 jump 2")
	runsAlike(t, "an If to the next", p, api.Trace{Steps: 3})
}
