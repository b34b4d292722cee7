package code_test

import (
	"encoding/hex"
	"slices"
	"strings"
	"testing"

	"fugue/api"
	"fugue/code"
)

func ret(args ...int) api.Instr { return api.Instr{Op: api.Return, Args: args} }

func least() api.Program {
	return api.Program{Funcs: []api.Func{{Code: []api.Instr{ret()}}}}
}

// every: a right program with each of the seventeen operations, no number of which stands at its bound by chance alone.
func every() api.Program {
	return api.Program{Globals: 3, Funcs: []api.Func{
		{Params: 1, Results: 0, Vars: 5, Code: []api.Instr{
			{Op: api.Int, R: 1, N: -2},
			{Op: api.Null, R: 2},
			{Op: api.Copy, R: 3, S: 1},
			{Op: api.Add, R: 2, S: 1, T: 3},
			{Op: api.Less, R: 4, S: 2, T: 1},
			{Op: api.Same, R: 1, S: 4, T: 2},
			{Op: api.Addr, R: 3, S: 4},
			{Op: api.New, R: 4, N: 8},
			{Op: api.Load, R: 2, S: 3, N: 7},
			{Op: api.Store, R: 3, S: 1, N: 2},
			{Op: api.Get, R: 2, N: 2},
			{Op: api.Set, S: 2, N: 1},
			{Op: api.Call, N: 1, Args: []int{1, 2}, Rets: []int{3, 4, 3}},
			{Op: api.Print, S: 3},
			{Op: api.If, S: 3, N: 9},
			{Op: api.Jump, N: 16},
			ret(),
		}},
		{Params: 2, Results: 3, Vars: 2, Code: []api.Instr{ret(1, 0, 1)}},
	}}
}

// named: the fields that each operation names, in the order of their bytes.
func named(op int) string {
	switch op {
	case api.Int, api.New, api.Get:
		return "RN"
	case api.Null:
		return "R"
	case api.Copy, api.Addr:
		return "RS"
	case api.Add, api.Less, api.Same:
		return "RST"
	case api.Load, api.Store:
		return "RSN"
	case api.Set, api.If:
		return "SN"
	case api.Call:
		return "Nar"
	case api.Print:
		return "S"
	case api.Jump:
		return "N"
	case api.Return:
		return "a"
	}
	return ""
}

// widthN: of how many bytes the operation's number is.
func widthN(op int) int {
	switch op {
	case api.Int:
		return 8
	case api.Call, api.Jump, api.If:
		return 2
	}
	return 1
}

func layNumber(b []byte, n, width int) []byte {
	for i := range width {
		b = append(b, byte(n>>(8*i)))
	}
	return b
}

func layList(b []byte, list []int) []byte {
	b = append(b, byte(len(list)))
	for _, v := range list {
		b = append(b, byte(v))
	}
	return b
}

func layInstr(b []byte, x api.Instr) []byte {
	b = append(b, byte(x.Op))
	for _, field := range named(x.Op) {
		switch field {
		case 'R':
			b = append(b, byte(x.R))
		case 'S':
			b = append(b, byte(x.S))
		case 'T':
			b = append(b, byte(x.T))
		case 'N':
			b = layNumber(b, x.N, widthN(x.Op))
		case 'a':
			b = layList(b, x.Args)
		case 'r':
			b = layList(b, x.Rets)
		}
	}
	return b
}

// lay: the bytes of any program, right or not, whose numbers fit their bytes.
func lay(p api.Program) []byte {
	b := []byte("fugue\x01")
	b = append(b, byte(p.Globals))
	b = layNumber(b, len(p.Funcs), 2)
	for _, f := range p.Funcs {
		b = append(b, byte(f.Params), byte(f.Results), byte(f.Vars))
		b = layNumber(b, len(f.Code), 2)
	}
	for _, f := range p.Funcs {
		for _, x := range f.Code {
			b = layInstr(b, x)
		}
	}
	return b
}

func sameInstr(x, y api.Instr) bool {
	return x.Op == y.Op && x.R == y.R && x.S == y.S && x.T == y.T && x.N == y.N && slices.Equal(x.Args, y.Args) && slices.Equal(x.Rets, y.Rets)
}

func sameFunc(f, g api.Func) bool {
	return f.Params == g.Params && f.Results == g.Results && f.Vars == g.Vars && slices.EqualFunc(f.Code, g.Code, sameInstr)
}

// same: two programs are alike, a nil list and one without elements too.
func same(p, q api.Program) bool {
	return p.Globals == q.Globals && slices.EqualFunc(p.Funcs, q.Funcs, sameFunc)
}

func isNone(p api.Program) bool { return p.Globals == 0 && len(p.Funcs) == 0 }

// marked: the bytes of a line of hexadecimal digits, and the offset at which a ! stands in it.
func marked(t *testing.T, line string) ([]byte, int) {
	t.Helper()
	line = strings.ReplaceAll(line, " ", "")
	ahead, behind, found := strings.Cut(line, "!")
	b, err := hex.DecodeString(ahead + behind)
	if err != nil || !found {
		t.Fatalf("%q: %v", line, err)
	}
	return b, len(ahead) / 2
}

// right asks all four calls of a right program with these bytes and so many locations.
func right(t *testing.T, name string, p api.Program, b []byte, locations int) {
	t.Helper()
	if e := code.Check(p); e != api.OK {
		t.Errorf("P1.1 %s: Check: %d", name, e)
	}
	if got, e := code.Encode(p); e != api.OK || !slices.Equal(got, b) {
		t.Errorf("P1.2 %s: Encode: error %d, right bytes: %v", name, e, slices.Equal(got, b))
	}
	if got, e, at := code.Decode(b); e != api.OK || at != 0 || !same(got, p) {
		t.Errorf("P1.3 %s: Decode: error %d at %d, same: %v", name, e, at, same(got, p))
	}
	if n := code.Locations(p); n != locations {
		t.Errorf("P1.4 %s: Locations: %d, want %d", name, n, locations)
	}
}

// wrong asks the three calls of a program that is not right.
func wrong(t *testing.T, name string, p api.Program, want api.Errno) {
	t.Helper()
	if e := code.Check(p); e != want {
		t.Errorf("P1.1 %s: Check: %d, want %d", name, e, want)
	}
	if b, e := code.Encode(p); e != want || len(b) > 0 {
		t.Errorf("P1.2 %s: Encode: %d with %d bytes, want %d", name, e, len(b), want)
	}
	if n := code.Locations(p); n != 0 {
		t.Errorf("P1.4 %s: Locations: %d, want 0", name, n)
	}
}

// refused asks Decode of bytes that are not right.
func refused(t *testing.T, name string, b []byte, want api.Errno, at int) {
	t.Helper()
	if p, e, got := code.Decode(b); e != want || got != at || !isNone(p) {
		t.Errorf("P1.3 %s: Decode: %d at %d, want %d at %d; no program: %v", name, e, got, want, at, isNone(p))
	}
}
