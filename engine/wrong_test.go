package engine_test

import (
	"math/rand"
	"slices"
	"testing"

	"fugue/api"
	"fugue/code"
)

// wrongBytes: bytes with another first violation each.
type wrongBytes struct {
	what string
	b    []byte
	e    api.Errno
	at   int
}

// body: one function with so many variables and instructions, and one global.
func body(t *testing.T, vars, length, code string) []byte {
	t.Helper()
	return bytesOf(t, "66 75 67 75 65 01, 01, 01 00, 00 00 "+vars+length+" 00,"+code)
}

// tooLarge: heads alone, each with as many variables as may be; with the last one there are too many.
func tooLarge(t *testing.T) []byte {
	t.Helper()
	b := bytesOf(t, "66 75 67 75 65 01, 00, 11 10") // 4113 functions
	for range 4113 {
		b = append(b, 0, 0, 255, 1, 0)
	}
	return b
}

func allWrong(t *testing.T) []wrongBytes {
	t.Helper()
	b := bytesOf(t, leastBytes)
	changed := func(at int, x byte) []byte {
		l := slices.Clone(b)
		l[at] = x
		return l
	}
	return []wrongBytes{
		{"nothing", nil, api.ErrShort, 0},
		{"an empty list", []byte{}, api.ErrShort, 0},
		{"a beginning", []byte("fug"), api.ErrShort, 3},
		{"another beginning", []byte("fugae"), api.ErrMagic, 0},
		{"another number behind fugue", changed(5, 2), api.ErrMagic, 0},
		{"17 globals", changed(6, 17), api.ErrGlobal, 6},
		{"no function", changed(7, 0), api.ErrHead, 7},
		{"two functions, one head", changed(7, 2), api.ErrShort, 16},
		{"nine parameters", changed(9, 9), api.ErrHead, 9},
		{"five results", changed(10, 5), api.ErrHead, 9},
		{"a parameter that is no variable", changed(9, 1), api.ErrHead, 9},
		{"4097 instructions", bytesOf(t, "66 75 67 75 65 01, 00, 01 00, 00 00 00 01 10"), api.ErrHead, 9},
		{"no instruction", changed(12, 0), api.ErrEnd, 9},
		{"too many variables", tooLarge(t), api.ErrTooLarge, 9 + 5*4112},
		{"the operation 0", changed(14, 0), api.ErrOp, 14},
		{"the operation 18", changed(14, 18), api.ErrOp, 14},
		{"an If at the end", changed(14, 14), api.ErrEnd, 14},
		{"a result that is none", changed(15, 1), api.ErrArity, 15},
		{"a variable that is none", body(t, "01", "02", "02 00 01, 0f 00"), api.ErrVar, 16},
		{"a New without fields", body(t, "01", "02", "06 00 00, 0f 00"), api.ErrField, 16},
		{"the field 8", body(t, "01", "02", "07 00 00 08, 0f 00"), api.ErrField, 17},
		{"the global 1 of one", body(t, "01", "02", "09 00 01, 0f 00"), api.ErrGlobal, 16},
		{"the function 1 of one", body(t, "01", "02", "0b 01 00 00 00, 0f 00"), api.ErrFunc, 15},
		{"an argument for no parameter", body(t, "01", "02", "0b 00 00 01 00 00, 0f 00"), api.ErrArity, 17},
		{"a jump behind the end", body(t, "01", "02", "0d 02 00, 0f 00"), api.ErrJump, 15},
		{"a number cut within", body(t, "01", "02", "01 00 01 02 03"), api.ErrShort, 19},
		{"a byte behind", append(slices.Clone(b), 0), api.ErrTrail, 16},
	}
}

func TestWrongBytes(t *testing.T) {
	met := map[api.Errno]int{}
	for _, x := range allWrong(t) {
		met[x.e]++
		for _, workers := range []int{1, 2, 3, 64} {
			refused(t, x.what, x.b, workers, x.e, x.at)
		}
	}
	for e := api.ErrMagic; e <= api.ErrTrail; e++ {
		if met[e] == 0 {
			t.Errorf("the error %d is not met", e)
		}
	}
}

// A wrong number of workers counts first, whatever the bytes.
func TestNumbersOfWorkersThatMayNotBe(t *testing.T) {
	for _, workers := range noCrews {
		for _, x := range allWrong(t) {
			refused(t, x.what, x.b, workers, api.ErrWorkers, 0)
		}
		refused(t, "the least program", bytesOf(t, leastBytes), workers, api.ErrWorkers, 0)
		for _, p := range shapes()[:3] {
			refused(t, "a right program", encoded(t, p), workers, api.ErrWorkers, 0)
		}
	}
}

func TestBytesCutAnywhere(t *testing.T) {
	for seed := range 12 {
		r := rand.New(rand.NewSource(int64(seed)))
		b := encoded(t, anyProgram(r, 5, 7))
		for n := range b {
			refused(t, "bytes that are cut", b[:n], crews[n%len(crews)], api.ErrShort, n)
			refused(t, "bytes that are cut", slices.Clone(b[:n]), crews[n%len(crews)], api.ErrShort, n)
		}
		for _, more := range [][]byte{{0}, {0x0f, 0}, []byte("fugue\x01"), b} {
			refused(t, "bytes with more behind", append(slices.Clone(b), more...), crews[len(more)%len(crews)], api.ErrTrail, len(b))
		}
	}
}

// Of any bytes it is Decode's answer that counts.
func TestBytesThatAreChanged(t *testing.T) {
	met := map[api.Errno]int{}
	for seed := range 3000 {
		r := rand.New(rand.NewSource(int64(seed)))
		b := encoded(t, anyProgram(r, 4, 6))
		for range 1 + r.Intn(2) {
			b[r.Intn(len(b))] = byte(r.Intn(256) >> r.Intn(8))
		}
		workers := crews[r.Intn(len(crews))]
		p, e, at := code.Decode(b)
		if met[e]++; e != api.OK {
			refused(t, "bytes that were changed", b, workers, e, at)
			continue
		}
		analyzed(t, "bytes that were changed", b, workers, anyScript(r, 40), plainBytes(p, least(t, p)))
	}
	if len(met) < 12 || met[api.OK] < 300 {
		t.Errorf("too few errors: %v", met)
	}
}
