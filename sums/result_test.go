package sums_test

import (
	"slices"
	"testing"

	"fugue/api"
	"fugue/code"
	"fugue/sums"
)

func TestResultOfTheExample(t *testing.T) {
	p := api.Program{Funcs: []api.Func{{Vars: 1, Code: []api.Instr{ret()}}}}
	r := lies(p)
	b := []byte{0x66, 0x67, 1, 1, 0, 0, 0, 1, 0, 0, 0}
	resultIs(t, "in the frame", p, r, b)
	r.Vars[0][0] = true
	b[10] = 1
	resultIs(t, "on the heap", p, r, b)
	b[10] = 2
	resultNotDecoded(t, "a bit that is none", p, b, api.ErrSummary)
}

func TestBytesWrittenOut(t *testing.T) {
	p, r := mixed(t)
	b := []byte{
		0x66, 0x67, 1, 2, 0,
		1, 2, 10, 18, 0, 3, 0, 9, 0x82, 0x02, 0x09, 0, 0x02,
		2, 0, 8, 1, 0, 9, 1, 0x80, 0,
	}
	resultIs(t, "two functions", p, r, b)
	r.Code[1][0] = true
	b[len(b)-1] = 1
	resultIs(t, "another New on the heap", p, r, b)
}

// withBoth: a function of so many variables and News.
func withBoth(vars, news int) api.Program {
	var c []api.Instr
	for i := range news {
		c = append(c, makes(i))
	}
	return api.Program{Funcs: []api.Func{{Vars: vars, Code: append(c, ret())}}}
}

// Each bit alone, of few variables and News, and of eight and more: in its place, and each that is none refused.
func TestEachBitAlone(t *testing.T) {
	for _, n := range []int{1, 2, 7, 8, 9, 15, 16, 17, 24, 25} {
		p := withBoth(n, n)
		wide := (n + 7) / 8
		clear, e := sums.EncodeResult(p, lies(p))
		if e != api.OK || len(clear) != 10+2*wide {
			t.Fatalf("P9.6: %d variables and News: %d bytes, error %d", n, len(clear), e)
		}
		for bit := range 8 * wide {
			vars, news := slices.Clone(clear), slices.Clone(clear)
			vars[10+bit/8] = 1 << (bit % 8)
			news[10+wide+bit/8] = 1 << (bit % 8)
			if bit >= n {
				resultNotDecoded(t, "a bit of no variable", p, vars, api.ErrSummary)
				resultNotDecoded(t, "a bit of no New", p, news, api.ErrSummary)
				continue
			}
			onVars, onNews := lies(p), lies(p)
			onVars.Vars[0][bit] = true
			onNews.Code[0][bit] = true
			resultIs(t, "a variable on the heap", p, onVars, vars)
			resultIs(t, "a New on the heap", p, onNews, news)
		}
	}
}

func TestNeitherVariablesNorNews(t *testing.T) {
	p := withBoth(0, 0)
	b := []byte{0x66, 0x67, 1, 1, 0, 0, 0, 0, 0, 0}
	resultIs(t, "nothing", p, api.Result{Sums: []api.Summary{{}}, Vars: [][]bool{nil}, Code: [][]bool{{false}}}, b)
	resultIs(t, "nothing", p, api.Result{Sums: []api.Summary{{Heap: []int{}, Result: [][]int{}}}, Vars: [][]bool{{}}, Code: [][]bool{{false}}}, b)
	resultNotDecoded(t, "a byte of no bits", p, append(b, 0), api.ErrSummary)
	resultNotEncoded(t, "no result", p, api.Result{}, api.ErrSummary)
}

// Of a program that is not right the error is code.Check's, whatever else is wrong.
func TestProgramsThatAreNotRight(t *testing.T) {
	one := func(f api.Func) api.Program { return api.Program{Funcs: []api.Func{f}} }
	seen := map[api.Errno]bool{}
	for _, p := range []api.Program{
		{},
		{Globals: 17, Funcs: []api.Func{{Code: []api.Instr{ret()}}}},
		one(api.Func{}),
		one(api.Func{Params: 9, Vars: 9, Code: []api.Instr{ret()}}),
		one(api.Func{Results: -1, Code: []api.Instr{ret()}}),
		one(api.Func{Params: 1, Code: []api.Instr{ret()}}),
		one(api.Func{Vars: 1, Code: []api.Instr{{Op: 18}, ret()}}),
		one(api.Func{Vars: 1, Code: []api.Instr{{Op: api.New, N: 9}, ret()}}),
		one(api.Func{Vars: 1, Code: []api.Instr{{Op: api.New, R: 1, N: 1}, ret()}}),
		one(api.Func{Vars: 1, Code: []api.Instr{{Op: api.New, S: 1, N: 1}, ret()}}),
		one(api.Func{Vars: 1, Code: []api.Instr{{Op: api.New, N: 1}}}),
		one(api.Func{Vars: 1, Code: []api.Instr{{Op: api.Call, N: 1}, ret()}}),
		one(api.Func{Vars: 1, Code: []api.Instr{ret(0)}}),
		one(api.Func{Vars: 1, Code: []api.Instr{{Op: api.Jump, N: 1}}}),
		{Funcs: slices.Repeat([]api.Func{{Vars: 255, Code: []api.Instr{ret()}}}, 4113)},
	} {
		want := code.Check(p)
		if want == api.OK || want == api.ErrSummary {
			t.Fatalf("the program is right")
		}
		seen[want] = true
		for _, r := range []api.Result{{}, lies(p), {Sums: make([]api.Summary, len(p.Funcs))}} {
			resultNotEncoded(t, "a program that is not right", p, r, want)
		}
		for _, b := range [][]byte{nil, {0x66, 0x67, 1, 1, 0}, {0x66, 0x67, 1, 1, 0, 0, 0, 1, 0, 0, 0}, {0x66, 0x67, 1, 0, 0}} {
			resultNotDecoded(t, "a program that is not right", p, b, want)
		}
	}
	if len(seen) < 9 {
		t.Errorf("only the errors %v were tried", seen)
	}
}

func TestResultsThatDoNotFit(t *testing.T) {
	for _, c := range []struct {
		what  string
		spoil func(r *api.Result)
	}{
		{"no Sums", func(r *api.Result) { r.Sums = nil }},
		{"a summary less", func(r *api.Result) { r.Sums = r.Sums[:1] }},
		{"a summary more", func(r *api.Result) { r.Sums = append(r.Sums, api.Summary{}) }},
		{"the summaries swapped", func(r *api.Result) { slices.Reverse(r.Sums) }},
		{"a summary without lists", func(r *api.Result) { r.Sums[0] = api.Summary{} }},
		{"a number -1", func(r *api.Result) { r.Sums[0].Heap[0] = -1 }},
		{"a number 4", func(r *api.Result) { r.Sums[0].Result[0][1] = 4 }},
		{"a number 10", func(r *api.Result) { r.Sums[1].Heap[1] = 10 }},
		{"a number 256 + 9", func(r *api.Result) { r.Sums[1].Heap[0] = 256 + 9 }},
		{"no Vars", func(r *api.Result) { r.Vars = nil }},
		{"Vars of a function less", func(r *api.Result) { r.Vars = r.Vars[:1] }},
		{"Vars of a function more", func(r *api.Result) { r.Vars = append(r.Vars, nil) }},
		{"a variable less", func(r *api.Result) { r.Vars[0] = r.Vars[0][:9] }},
		{"a variable more", func(r *api.Result) { r.Vars[0] = append(r.Vars[0], false) }},
		{"a variable more of the last", func(r *api.Result) { r.Vars[1] = append(r.Vars[1], true) }},
		{"no variables of the last", func(r *api.Result) { r.Vars[1] = nil }},
		{"no Code", func(r *api.Result) { r.Code = nil }},
		{"Code of a function less", func(r *api.Result) { r.Code = r.Code[:1] }},
		{"Code of a function more", func(r *api.Result) { r.Code = append(r.Code, nil) }},
		{"an instruction less", func(r *api.Result) { r.Code[0] = r.Code[0][:27] }},
		{"an instruction more", func(r *api.Result) { r.Code[1] = append(r.Code[1], false) }},
		{"as many bools as News", func(r *api.Result) { r.Code[1] = r.Code[1][:1] }},
		{"no instructions", func(r *api.Result) { r.Code[0] = nil }},
		{"a Null on the heap", func(r *api.Result) { r.Code[0][1] = true }},
		{"the last Return on the heap", func(r *api.Result) { r.Code[1][1] = true }},
	} {
		p, r := mixed(t)
		c.spoil(&r)
		resultNotEncoded(t, c.what, p, r, api.ErrSummary)
	}
}

// Each operation on the heap: a New alone may be.
func TestEachOperationOnTheHeap(t *testing.T) {
	c := []api.Instr{
		{Op: api.Int}, {Op: api.Copy}, {Op: api.Add}, {Op: api.Less}, {Op: api.Addr}, {Op: api.New, N: 1}, {Op: api.Load}, {Op: api.Store}, {Op: api.Get},
		{Op: api.Set}, {Op: api.Call}, {Op: api.Print}, {Op: api.Jump}, {Op: api.If}, ret(), {Op: api.Null}, {Op: api.Same}, ret(),
	}
	p := api.Program{Globals: 1, Funcs: []api.Func{{Vars: 1, Code: c}}}
	for at, in := range c {
		r := lies(p)
		r.Code[0][at] = true
		if in.Op == api.New {
			resultIs(t, "a New", p, r, []byte{0x66, 0x67, 1, 1, 0, 0, 0, 1, 1, 0, 0, 1})
		} else {
			resultNotEncoded(t, "what is no New", p, r, api.ErrSummary)
		}
	}
}

// The bytes cut anywhere, and with more behind them.
func TestResultsCutAndLonger(t *testing.T) {
	p, r := mixed(t)
	b, _ := sums.EncodeResult(p, r)
	for n := range b {
		resultNotDecoded(t, "cut", p, b[:n], api.ErrSummary)
	}
	for _, more := range [][]byte{{0}, {1}, {0, 0}, b} {
		resultNotDecoded(t, "longer", p, append(slices.Clone(b), more...), api.ErrSummary)
	}
}

// Each byte in each of its values: those that the program alone says stand fast; of the others just what is encoded is decoded.
func TestEachByteOfAResult(t *testing.T) {
	p, r := mixed(t)
	b, _ := sums.EncodeResult(p, r)
	fast := []int{0, 1, 2, 3, 4, 5, 6, 7, 8, 9, 18, 19, 20, 21, 22}
	numbers := []int{10, 11, 12, 23, 24}
	clear := []byte{13: 0, 14: 0xfc, 15: 0, 16: 0, 17: 0xfc, 25: 0, 26: 0xfe}
	for at := range b {
		for c := range 256 {
			changed := slices.Clone(b)
			changed[at] = byte(c)
			may := byte(c) == b[at]
			switch {
			case slices.Contains(fast, at):
			case slices.Contains(numbers, at):
				may = c <= 3 || c == none
			default:
				may = byte(c)&clear[at] == 0
			}
			if !may {
				resultNotDecoded(t, "a byte changed", p, changed, api.ErrSummary)
				continue
			}
			got, e := sums.DecodeResult(p, changed)
			if e != api.OK {
				t.Errorf("P9.7: the byte %d with %d: error %d", at, c, e)
			}
			resultIs(t, "a byte changed", p, got, changed)
		}
	}
}

// The bytes of one program are no result of another one.
func TestOfAnotherProgram(t *testing.T) {
	p, r := mixed(t)
	b, _ := sums.EncodeResult(p, r)
	for _, c := range []struct {
		what   string
		change func(p *api.Program)
	}{
		{"a function less", func(p *api.Program) { p.Funcs = p.Funcs[:1] }},
		{"a function more", func(p *api.Program) { p.Funcs = append(p.Funcs, api.Func{Code: []api.Instr{ret()}}) }},
		{"a parameter less", func(p *api.Program) { p.Funcs[1].Params-- }},
		{"a parameter more", func(p *api.Program) { p.Funcs[0].Params++ }},
		{"a result more", func(p *api.Program) { p.Funcs[1].Results++; p.Funcs[1].Code[1].Args = []int{0} }},
		{"a variable more", func(p *api.Program) { p.Funcs[0].Vars++ }},
		{"a New less", func(p *api.Program) { p.Funcs[0].Code[0] = api.Instr{Op: api.Null} }},
		{"a New more", func(p *api.Program) { p.Funcs[0].Code[1] = makes(0) }},
		{"the functions swapped", func(p *api.Program) { slices.Reverse(p.Funcs) }},
	} {
		other, _ := mixed(t)
		c.change(&other)
		if e := code.Check(other); e != api.OK {
			t.Fatalf("%s: no program: error %d", c.what, e)
		}
		resultNotDecoded(t, c.what, other, b, api.ErrSummary)
	}
	other, _ := mixed(t)
	other.Globals = 9
	other.Funcs[0].Code[1] = api.Instr{Op: api.Copy, R: 5, S: 6}
	other.Funcs[0].Code = slices.Insert(other.Funcs[0].Code, 27, api.Instr{Op: api.Print})
	r.Code[0] = append(r.Code[0], false)
	resultIs(t, "other instructions around the News", other, r, b)
}
