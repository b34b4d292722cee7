package code_test

import (
	"fmt"
	"math"
	"math/rand"
	"slices"
	"testing"

	"fugue/api"
	"fugue/code"
)

// asTold asks what the chapter says of whatever Decode tells.
func asTold(t *testing.T, b []byte) {
	t.Helper()
	p, e, at := code.Decode(b)
	if e == api.OK {
		again, f := code.Encode(p)
		if at != 0 || f != api.OK || !slices.Equal(again, b) || code.Check(p) != api.OK || code.Locations(p) < 1 {
			t.Errorf("P1.3: %x: not the bytes of what was decoded: %d", b, f)
		}
		return
	}
	if !isNone(p) || at < 0 || at > len(b) || e == api.ErrShort && at != len(b) || e == api.ErrArg {
		t.Errorf("P1.3: %x: %d at %d", b, e, at)
	}
	if e == api.ErrShort || e == api.ErrMagic || e == api.ErrTrail {
		return
	}
	width := min(5, len(b)-at) // nothing that is named is wider
	for _, more := range [][]byte{nil, {0}, {0xff, 0xff, 0xff}} {
		refused(t, "the same beginning", append(b[:at+width:at+width], more...), e, at)
	}
}

// TestEachByteChanged: each byte of a program in each of its values.
func TestEachByteChanged(t *testing.T) {
	whole := lay(every())
	for i := range whole {
		for c := range 256 {
			b := slices.Clone(whole)
			b[i] = byte(c)
			asTold(t, b)
		}
	}
}

func TestRandomBytes(t *testing.T) {
	r := rand.New(rand.NewSource(1))
	whole := lay(every())
	for range 20000 {
		b := slices.Clone(whole[:r.Intn(len(whole)+1)])
		for range r.Intn(3) {
			b = slices.Insert(b, r.Intn(len(b)+1), byte(r.Intn(20)))
		}
		for range r.Intn(3) {
			if len(b) > 6 {
				b[6+r.Intn(len(b)-6)] = byte(r.Intn(20))
			}
		}
		asTold(t, b)
	}
}

func anyList(r *rand.Rand, most, vars int) []int {
	var l []int
	for range r.Intn(most + 1) {
		l = append(l, r.Intn(vars+1))
	}
	return l
}

// anyInstr: an instruction whose named fields are mostly right, and fit their bytes.
func anyInstr(r *rand.Rand) api.Instr {
	x := api.Instr{Op: 1 + r.Intn(17)}
	if r.Intn(50) == 0 {
		x.Op = r.Intn(30)
	}
	for _, field := range named(x.Op) {
		switch field {
		case 'a':
			x.Args = anyList(r, 1, 7)
		case 'r':
			x.Rets = anyList(r, 1, 7)
		case 'N':
			x.N = r.Intn(4)
		default:
			*place(&x, field) = r.Intn(9)
		}
	}
	return x
}

func anyProgram(r *rand.Rand) api.Program {
	p := api.Program{Globals: 2 + r.Intn(5)}
	for range 1 + r.Intn(2) {
		f := api.Func{Params: r.Intn(2), Results: r.Intn(2), Vars: 8 - r.Intn(2)}
		for range r.Intn(5) {
			f.Code = append(f.Code, anyInstr(r))
		}
		f.Code = append(f.Code, ret(make([]int, f.Results)...))
		p.Funcs = append(p.Funcs, f)
	}
	return p
}

// TestProgramsAndBytesAgree: a program and the bytes that it would be have one first violation.
func TestProgramsAndBytesAgree(t *testing.T) {
	r := rand.New(rand.NewSource(2))
	counts := map[api.Errno]int{}
	for range 50000 {
		p := anyProgram(r)
		b := lay(p)
		q, e, _ := code.Decode(b)
		counts[e]++
		if f := code.Check(p); f != e {
			t.Fatalf("P1.1: %+v: Check %d, Decode %d", p, f, e)
		}
		if e != api.OK {
			continue
		}
		if got, f := code.Encode(p); f != api.OK || !slices.Equal(got, b) || !same(p, q) {
			t.Fatalf("P1.2: %+v: %d", p, f)
		}
	}
	for _, e := range []api.Errno{api.OK, api.ErrOp, api.ErrVar, api.ErrFunc, api.ErrArity, api.ErrJump, api.ErrField, api.ErrGlobal} {
		if counts[e] == 0 {
			t.Errorf("no program with %d was tried", e)
		}
	}
}

// TestWildPrograms: whatever numbers stand in a program, every call ends and answers alike.
func TestWildPrograms(t *testing.T) {
	r := rand.New(rand.NewSource(3))
	wild := []int{math.MinInt64, -1, 0, 1, 2, 5, 8, 15, 17, 255, 256, 65536, math.MaxInt64}
	n := func() int { return wild[r.Intn(len(wild))] }
	for range 20000 {
		p := every()
		for range 1 + r.Intn(3) {
			x := &p.Funcs[0].Code[r.Intn(17)]
			switch r.Intn(8) {
			case 0:
				x.Op = n()
			case 1:
				x.Args = []int{n(), n()}
			case 2:
				x.Rets = []int{n()}
			case 3:
				p.Funcs[r.Intn(2)] = api.Func{Params: n(), Results: n(), Vars: n(), Code: p.Funcs[0].Code}
			default:
				*place(x, rune("RSTN"[r.Intn(4)])) = n()
			}
			if len(p.Funcs[0].Code) < 17 {
				p.Funcs[0].Code = every().Funcs[0].Code
			}
		}
		e := code.Check(p)
		b, f := code.Encode(p)
		if e != f || (e == api.OK) != (len(b) > 0) || (e == api.OK) != (code.Locations(p) > 0) {
			t.Fatalf("P1.2: %s: %d, %d", fmt.Sprint(p), e, f)
		}
		if q, g, _ := code.Decode(b); e == api.OK && (g != api.OK || !same(p, q)) {
			t.Fatalf("P1.3: %s: %d", fmt.Sprint(p), g)
		}
	}
}
