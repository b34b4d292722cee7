package text_test

import (
	"math"
	"testing"

	"fugue/api"
	"fugue/text"
)

// names: which fields the table names of each operation.
func names(op int) string {
	switch op {
	case api.Int, api.New, api.Get:
		return "RN"
	case api.Copy, api.Addr:
		return "RS"
	case api.Add, api.Less, api.Same:
		return "RST"
	case api.Load, api.Store:
		return "RSN"
	case api.Set, api.If:
		return "SN"
	case api.Call:
		return "Nar"
	case api.Print:
		return "S"
	case api.Jump:
		return "N"
	case api.Return:
		return "a"
	case api.Null:
		return "R"
	}
	return ""
}

// with: the instruction with a number in one field; in a list it stands behind all others.
func with(i api.Instr, field rune, n int) api.Instr {
	switch field {
	case 'R':
		i.R = n
	case 'S':
		i.S = n
	case 'T':
		i.T = n
	case 'N':
		i.N = n
	case 'a':
		i.Args = append(append([]int{}, i.Args...), n)
	case 'r':
		i.Rets = append(append([]int{}, i.Rets...), n)
	}
	return i
}

func isNamed(op int, field rune) bool {
	for _, f := range names(op) {
		if f == field {
			return true
		}
	}
	return false
}

// TestFieldsNotNamed: an instruction with any number but zero in a field that its line does not have is that of no line.
func TestFieldsNotNamed(t *testing.T) {
	for _, s := range samples() {
		for _, field := range "RSTNar" {
			if isNamed(s.instr.Op, field) {
				continue
			}
			for _, n := range []int{1, -1, 999999999, 1000000000, math.MaxInt, math.MinInt} {
				if got := text.Instr(with(s.instr, field, n)); got != "" {
					t.Errorf("P2.3 %s with %d in %c: %q", s.canonical, n, field, got)
				}
			}
			if field == 'a' || field == 'r' {
				if got := text.Instr(with(s.instr, field, 0)); got != "" {
					t.Errorf("P2.3 %s with a 0 in the list %c: %q", s.canonical, field, got)
				}
			}
		}
	}
}

// TestBoundsOfWords: each number of a line is at most of nine digits, but an Int's; the line of the greatest can stand there.
func TestBoundsOfWords(t *testing.T) {
	for _, s := range samples() {
		for _, field := range names(s.instr.Op) {
			if s.instr.Op == api.Int && field == 'N' {
				continue
			}
			for _, n := range []int{-1, 1000000000, math.MaxInt, math.MinInt, -999999999, 1 << 32} {
				if got := text.Instr(with(s.instr, field, n)); got != "" {
					t.Errorf("P2.3 %s with %d in %c: %q", s.canonical, n, field, got)
				}
			}
			for _, n := range []int{0, 9, 10, 255, 256, 65536, 999999999} {
				got := text.Instr(with(s.instr, field, n))
				if got == "" {
					t.Errorf("P2.3 %s with %d in %c: nothing", s.canonical, n, field)
				}
				if _, e, _ := text.Parse(begin + got + "\nreturn\n"); e == api.ErrText {
					t.Errorf("P2.1 %q cannot stand there", got)
				}
			}
		}
	}
	// a number that is out of its bounds anywhere in a list, not at its end alone
	for _, i := range []api.Instr{
		{Op: api.Return, Args: []int{-1, 0}}, {Op: api.Return, Args: []int{0, 1000000000, 0}},
		{Op: api.Call, Args: []int{-1, 0}, Rets: []int{0}}, {Op: api.Call, Args: []int{0}, Rets: []int{-1, 0}}, {Op: api.Call, Rets: []int{0, 1000000000, 0}},
	} {
		if got := text.Instr(i); got != "" {
			t.Errorf("P2.3 %+v: %q", i, got)
		}
	}
}

func TestNoSuchOperation(t *testing.T) {
	for _, op := range []int{0, -1, -2, -3, 18, 19, 255, 256, 257, math.MaxInt, math.MinInt} {
		for _, i := range []api.Instr{{Op: op}, {Op: op, N: 1}, {Op: op, R: 1, S: 2}, {Op: op, Args: []int{0}}} {
			if got := text.Instr(i); got != "" {
				t.Errorf("P2.3 operation %d: %q", op, got)
			}
		}
	}
}

// TestEmptyLists: a list that is nil and one without elements are the same.
func TestEmptyLists(t *testing.T) {
	for _, s := range samples() {
		i := s.instr
		if i.Args == nil {
			i.Args = []int{}
		}
		if i.Rets == nil {
			i.Rets = make([]int, 0, 3)
		}
		if got := text.Instr(i); got != s.canonical {
			t.Errorf("P2.3 %s with empty lists: %q", s.canonical, got)
		}
	}
	p := api.Program{Funcs: []api.Func{{Code: []api.Instr{{Op: api.Return, Args: []int{}, Rets: []int{}}}}}}
	if got := printed(t, "empty lists", p); got != "globals 0\nfunc params 0 results 0 vars 0\n  return\n" {
		t.Errorf("P2.2 empty lists: %q", got)
	}
}
