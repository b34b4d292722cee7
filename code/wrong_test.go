package code_test

import (
	"fmt"
	"math"
	"testing"

	"fugue/api"
	"fugue/code"
)

const (
	start = "667567756501 "
	// two functions: the first has two instructions and four variables, the second takes two, gives one.
	two = start + "02 0200 01 00 04 0200 02 01 02 0100 "
)

// TestEachViolation: each row of the chapter's table; the ! stands ahead of what is named, which ends the line.
func TestEachViolation(t *testing.T) {
	for _, c := range []struct {
		name, line string
		want       api.Errno
	}{
		{"17 globals", start + "!11", api.ErrGlobal},
		{"255 globals", start + "!ff", api.ErrGlobal},
		{"no functions", start + "10 !0000", api.ErrHead},
		{"9 parameters", start + "00 0100 !09 00 09 0100", api.ErrHead},
		{"more parameters than variables", start + "00 0100 !02 00 01 0100", api.ErrHead},
		{"5 results", start + "00 0100 !00 05 00 0100", api.ErrHead},
		{"4097 instructions", start + "00 0100 !00 00 00 0110", api.ErrHead},
		{"no instructions", start + "00 0100 !00 00 00 0000", api.ErrEnd},
		{"the second head", start + "00 0200 00 00 00 0100 !09 00 09 0100", api.ErrHead},
		{"operation 0", two + "!00", api.ErrOp},
		{"operation 18", two + "!12", api.ErrOp},
		{"operation 255", two + "!ff", api.ErrOp},
		{"the last a Print", two + "0f00 !0c", api.ErrEnd},
		{"R of Int", two + "01 !04", api.ErrVar},
		{"R of Null", two + "10 !04", api.ErrVar},
		{"R of Copy", two + "02 !04", api.ErrVar},
		{"S of Copy", two + "02 03 !04", api.ErrVar},
		{"R of Addr", two + "05 !04", api.ErrVar},
		{"S of Addr", two + "05 03 !04", api.ErrVar},
		{"R of Add", two + "03 !04", api.ErrVar},
		{"S of Add", two + "03 03 !04", api.ErrVar},
		{"T of Add", two + "03 03 03 !04", api.ErrVar},
		{"R of Less", two + "04 !04", api.ErrVar},
		{"S of Less", two + "04 03 !04", api.ErrVar},
		{"T of Less", two + "04 03 03 !04", api.ErrVar},
		{"R of Same", two + "11 !04", api.ErrVar},
		{"S of Same", two + "11 03 !04", api.ErrVar},
		{"T of Same", two + "11 03 03 !04", api.ErrVar},
		{"R of New", two + "06 !04", api.ErrVar},
		{"R of Load", two + "07 !04", api.ErrVar},
		{"S of Load", two + "07 03 !04", api.ErrVar},
		{"R of Store", two + "08 !04", api.ErrVar},
		{"S of Store", two + "08 03 !ff", api.ErrVar},
		{"R of Get", two + "09 !04", api.ErrVar},
		{"S of Set", two + "0a !04", api.ErrVar},
		{"first of Args", two + "0b 0100 02 !04", api.ErrVar},
		{"second of Args", two + "0b 0100 02 03 !04", api.ErrVar},
		{"first of Rets", two + "0b 0100 02 03 03 01 !04", api.ErrVar},
		{"S of Print", two + "0c !04", api.ErrVar},
		{"S of If", two + "0e !04", api.ErrVar},
		{"Args of Return", two + "0f00 0f00 0f 01 !02", api.ErrVar},
		{"a New of 0", two + "06 03 !00", api.ErrField},
		{"a New of 9", two + "06 03 !09", api.ErrField},
		{"a Load of field 8", two + "07 03 03 !08", api.ErrField},
		{"a Store of field 8", two + "08 03 03 !08", api.ErrField},
		{"a Store of field 255", two + "08 03 03 !ff", api.ErrField},
		{"Get of no global", two + "09 03 !02", api.ErrGlobal},
		{"Set of no global", two + "0a 03 !02", api.ErrGlobal},
		{"Call of no function", two + "0b !0200", api.ErrFunc},
		{"Call of function 256", two + "0b !0001", api.ErrFunc},
		{"one of Args too few", two + "0b 0100 !01", api.ErrArity},
		{"one of Args too many", two + "0b 0100 !03", api.ErrArity},
		{"one of Rets too few", two + "0b 0100 02 03 03 !00", api.ErrArity},
		{"one of Rets too many", two + "0b 0100 02 03 03 !02", api.ErrArity},
		{"a Return of too many", two + "0f !01", api.ErrArity},
		{"a Return of too few", two + "0f00 0f00 0f !00", api.ErrArity},
		{"a Jump behind the last", two + "0d !0200", api.ErrJump},
		{"a Jump to 256", two + "0d !0001", api.ErrJump},
		{"an If behind the last", two + "0e 03 !0200", api.ErrJump},
	} {
		b, at := marked(t, c.line)
		refused(t, c.name, b, c.want, at)
		refused(t, c.name+", more behind", append(b[:len(b):len(b)], 0, 0xff, 18, 1), c.want, at)
		refused(t, c.name+", a byte less", b[:len(b)-1], api.ErrShort, len(b)-1)
		refused(t, c.name+", cut ahead of it", b[:at], api.ErrShort, at)
	}
}

func TestMagic(t *testing.T) {
	for _, s := range []string{"g", "fugae", "fugue\x00", "fugue\x02\x00\x00", "Fugue\x01", "\x00", "fugu\x01\x01", "\x01eug"} {
		refused(t, fmt.Sprintf("%q", s), []byte(s), api.ErrMagic, 0)
	}
	whole := lay(every())
	for i := range 6 {
		for _, c := range []byte{0, whole[i] ^ 1, whole[i] ^ 0x80, 0xff} {
			b := append([]byte(nil), whole...)
			b[i] = c
			refused(t, "another beginning", b, api.ErrMagic, 0)
			refused(t, "another beginning, cut", b[:i+1], api.ErrMagic, 0)
		}
	}
}

// TestLastInstruction: no operation but Jump and Return may end a function.
func TestLastInstruction(t *testing.T) {
	for _, x := range every().Funcs[0].Code {
		p := every()
		p.Funcs[0].Code[16] = x
		if x.Op == api.Jump || x.Op == api.Return {
			right(t, "last", p, lay(p), 9)
			continue
		}
		wrong(t, "last", p, api.ErrEnd)
		at := len(lay(every())) - 5 - 2
		refused(t, "last", lay(p), api.ErrEnd, at)
		refused(t, "last, only its operation", lay(p)[:at+1], api.ErrEnd, at)
	}
}

// TestWideNumbers: numbers of a program below 0 or too great for their bytes are out of their range, none is cut to its bytes first.
func TestWideNumbers(t *testing.T) {
	for _, wide := range []int{-1, -256, -1 << 40, math.MinInt64, 1 << 16, 1 << 40, 1<<63 - 256, math.MaxInt64} {
		for _, c := range []struct {
			place func(p *api.Program) *int
			want  api.Errno
		}{
			{func(p *api.Program) *int { return &p.Globals }, api.ErrGlobal},
			{func(p *api.Program) *int { return &p.Funcs[1].Params }, api.ErrHead},
			{func(p *api.Program) *int { return &p.Funcs[1].Results }, api.ErrHead},
			{func(p *api.Program) *int { return &p.Funcs[1].Vars }, api.ErrHead},
			{func(p *api.Program) *int { return &p.Funcs[0].Code[3].Op }, api.ErrOp},
			{func(p *api.Program) *int { return &p.Funcs[0].Code[16].Op }, api.ErrOp},
			{func(p *api.Program) *int { return &p.Funcs[0].Code[12].Args[1] }, api.ErrVar},
			{func(p *api.Program) *int { return &p.Funcs[0].Code[12].Rets[2] }, api.ErrVar},
			{func(p *api.Program) *int { return &p.Funcs[1].Code[0].Args[0] }, api.ErrVar},
		} {
			p := every()
			*c.place(&p) = wide
			wrong(t, fmt.Sprintf("the number %d", wide), p, c.want)
			p = every()
			*c.place(&p) += 1 << 8
			wrong(t, "256 more", p, c.want)
			p = every()
			*c.place(&p) += 1 << 32
			wrong(t, "2^32 more", p, c.want)
		}
	}
}

// fieldError: the error of a field that is named but out of its range.
func fieldError(op int, field rune) api.Errno {
	if field != 'N' {
		return api.ErrVar
	}
	switch op {
	case api.New, api.Load, api.Store:
		return api.ErrField
	case api.Get, api.Set:
		return api.ErrGlobal
	case api.Call:
		return api.ErrFunc
	}
	return api.ErrJump
}

func place(x *api.Instr, field rune) *int {
	switch field {
	case 'R':
		return &x.R
	case 'S':
		return &x.S
	case 'T':
		return &x.T
	}
	return &x.N
}

func names(op int, field rune) bool {
	for _, f := range named(op) {
		if f == field {
			return true
		}
	}
	return false
}

// TestEachField: of each operation each field, one after the other, out of its range if it is named, not zero if it is not.
func TestEachField(t *testing.T) {
	for i, x := range every().Funcs[0].Code {
		for _, field := range "RSTN" {
			for _, n := range []int{-1, math.MinInt64, 17, 255, 256, 1 << 16, 1 << 40, math.MaxInt64} {
				p := every()
				*place(&p.Funcs[0].Code[i], field) = n
				want := api.ErrArg
				if x.Op == api.Int && field == 'N' {
					want = api.OK
				} else if names(x.Op, field) {
					want = fieldError(x.Op, field)
				}
				if e := code.Check(p); e != want {
					t.Errorf("P1.1: operation %d, %c %d: %d, want %d", x.Op, field, n, e, want)
				}
			}
			if !names(x.Op, field) {
				p := every()
				*place(&p.Funcs[0].Code[i], field) = 1
				wrong(t, fmt.Sprintf("operation %d names no %c", x.Op, field), p, api.ErrArg)
			}
		}
	}
}

// TestEachList: lists that are not named must be empty, others have their length.
func TestEachList(t *testing.T) {
	for i, x := range every().Funcs[0].Code {
		for _, n := range []int{1, 2, 4, 256, 258, 259} {
			p, q := every(), every()
			p.Funcs[0].Code[i].Args = make([]int, n)
			q.Funcs[0].Code[i].Rets = make([]int, n)
			args, rets := api.ErrArg, api.ErrArg
			if names(x.Op, 'a') {
				args = api.ErrArity
			}
			if names(x.Op, 'r') {
				rets = api.ErrArity
			}
			if x.Op != api.Call || n != 2 {
				wrong(t, fmt.Sprintf("operation %d: %d Args", x.Op, n), p, args)
			}
			wrong(t, fmt.Sprintf("operation %d: %d Rets", x.Op, n), q, rets)
		}
	}
	for _, n := range []int{0, 1, 2, 4, 256, 259} {
		p := every()
		p.Funcs[1].Code[0].Args = make([]int, n)
		wrong(t, fmt.Sprintf("a Return of %d", n), p, api.ErrArity)
	}
	p := every()
	p.Funcs[0].Code[12].Args, p.Funcs[0].Code[12].Rets = nil, nil
	wrong(t, "a Call without lists", p, api.ErrArity)
}

// TestFirstOfSeveral: of several violations the first in the order of the bytes counts; at one offset the first of the table.
func TestFirstOfSeveral(t *testing.T) {
	call := func(p *api.Program) *api.Instr { return &p.Funcs[0].Code[12] }
	spoils := []struct {
		spoil func(p *api.Program)
		want  api.Errno
	}{
		{func(p *api.Program) { p.Globals = -1 }, api.ErrGlobal},
		{func(p *api.Program) { p.Funcs[0].Results = 5 }, api.ErrHead},
		{func(p *api.Program) { p.Funcs[1].Code = nil }, api.ErrEnd},
		{func(p *api.Program) { p.Funcs[0].Code[2].R = -1 }, api.ErrVar},
		{func(p *api.Program) { p.Funcs[0].Code[7].Op = 18 }, api.ErrOp},
		{func(p *api.Program) { p.Funcs[0].Code[8].N = 8 }, api.ErrField},
		{func(p *api.Program) { p.Funcs[0].Code[11].T = 1 }, api.ErrArg},
		{func(p *api.Program) { call(p).N = 2 }, api.ErrFunc},
		{func(p *api.Program) { call(p).Args = append(call(p).Args, 0) }, api.ErrArity},
		{func(p *api.Program) { call(p).Args[1] = 5 }, api.ErrVar},
		{func(p *api.Program) { call(p).Rets = call(p).Rets[:2] }, api.ErrArity},
		{func(p *api.Program) { call(p).Rets[0] = 5 }, api.ErrVar},
		{func(p *api.Program) { p.Funcs[0].Code[14].N = 17 }, api.ErrJump},
		{func(p *api.Program) { p.Funcs[0].Code[16] = api.Instr{Op: api.Null} }, api.ErrEnd},
	}
	for i, first := range spoils {
		for _, later := range spoils[i+1:] {
			p := every()
			later.spoil(&p)
			first.spoil(&p)
			wrong(t, fmt.Sprintf("violation %d first", i), p, first.want)
		}
	}
	none := every()
	none.Funcs, none.Globals = nil, 17
	wrong(t, "globals ahead of functions", none, api.ErrGlobal)
	refused(t, "globals ahead of functions", lay(none), api.ErrGlobal, 6)
}

// TestFirstAtOneOffset: the order of the table where things stand at one offset.
func TestFirstAtOneOffset(t *testing.T) {
	for _, c := range []struct {
		name  string
		spoil func(p *api.Program)
		want  api.Errno
	}{
		{"no operation with fields", func(p *api.Program) { p.Funcs[0].Code[16] = api.Instr{Op: 18, R: 1} }, api.ErrOp},
		{"the last with other fields", func(p *api.Program) { p.Funcs[0].Code[16] = api.Instr{Op: api.Print, N: 1} }, api.ErrArg},
		{"the last with wrong fields", func(p *api.Program) { p.Funcs[0].Code[16] = api.Instr{Op: api.Print, S: 9} }, api.ErrEnd},
		{"other fields ahead of wrong ones", func(p *api.Program) { p.Funcs[0].Code[2] = api.Instr{Op: api.Copy, R: 9, T: 1} }, api.ErrArg},
		{"a head without code", func(p *api.Program) { p.Funcs[0] = api.Func{Results: 5} }, api.ErrHead},
		{"a head of too few variables without code", func(p *api.Program) { p.Funcs[0] = api.Func{Params: 1} }, api.ErrHead},
		{"R ahead of S", func(p *api.Program) { p.Funcs[0].Code[8].S, p.Funcs[0].Code[8].N = 5, 8 }, api.ErrVar},
	} {
		p := every()
		c.spoil(&p)
		wrong(t, c.name, p, c.want)
	}
	b, at := marked(t, two+"03 !04 04 04")
	refused(t, "R, S and T", b, api.ErrVar, at)
	b, at = marked(t, two+"07 03 !04 08")
	refused(t, "S and N", b, api.ErrVar, at)
	b, at = marked(t, two+"0b !0200 09 09 09")
	refused(t, "function and Args", b, api.ErrFunc, at)
	b, at = marked(t, start+"00 0200 00 00 00 0100 !09 00 09 0100 0b 0100 09 00 00 00 00 00 00 00 00 00 00 0f 00")
	refused(t, "heads ahead of code", b, api.ErrHead, at)
}
