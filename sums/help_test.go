package sums_test

import (
	"math/rand"
	"slices"
	"testing"

	"fugue/api"
	"fugue/code"
	"fugue/sums"
)

const none = api.None

func sum(heap []int, result ...[]int) api.Summary { return api.Summary{Heap: heap, Result: result} }

// pair: the shape of the chapter's examples, and their summary.
func pair() (api.Func, api.Summary) {
	return api.Func{Params: 2, Results: 1}, sum([]int{0, none}, []int{2}, []int{none})
}

// every: a summary with that number everywhere.
func every(f api.Func, n int) api.Summary {
	var s api.Summary
	for range f.Params {
		s.Heap = append(s.Heap, n)
		s.Result = append(s.Result, slices.Repeat([]int{n}, f.Results))
	}
	return s
}

// places: where the numbers of a summary stand, in the order of their bytes.
func places(s api.Summary) []*int {
	var l []*int
	for i := range s.Heap {
		l = append(l, &s.Heap[i])
		for j := range s.Result[i] {
			l = append(l, &s.Result[i][j])
		}
	}
	return l
}

func alike(a, b api.Summary) bool {
	return slices.Equal(a.Heap, b.Heap) && slices.EqualFunc(a.Result, b.Result, slices.Equal)
}

func alikeResults(a, b api.Result) bool {
	return slices.EqualFunc(a.Sums, b.Sums, alike) && slices.EqualFunc(a.Vars, b.Vars, slices.Equal) && slices.EqualFunc(a.Code, b.Code, slices.Equal)
}

func isNone(r api.Result) bool { return len(r.Sums)+len(r.Vars)+len(r.Code) == 0 }

func checks(t *testing.T, what string, f api.Func, s api.Summary, want api.Errno) {
	t.Helper()
	if e := sums.Check(f, s); e != want {
		t.Errorf("P9.1: %s: Check: error %d, want %d", what, e, want)
	}
}

func above(t *testing.T, what string, a, b api.Summary, want bool) {
	t.Helper()
	if sums.Above(a, b) != want {
		t.Errorf("P9.2: %s: Above of %v and %v is not %v", what, a, b, want)
	}
}

func meets(t *testing.T, what string, a, b, want api.Summary) {
	t.Helper()
	if m, e := sums.Meet(a, b); e != api.OK || !alike(m, want) {
		t.Errorf("P9.3: %s: Meet of %v and %v: %v, error %d, want %v", what, a, b, m, e, want)
	}
}

// apart: two summaries that have no order and no Meet, either way round.
func apart(t *testing.T, what string, a, b api.Summary) {
	t.Helper()
	for range 2 {
		above(t, what, a, b, false)
		if m, e := sums.Meet(a, b); e != api.ErrSummary || len(m.Heap)+len(m.Result) > 0 {
			t.Errorf("P9.3: %s: Meet of %v and %v: %v, error %d, want ErrSummary alone", what, a, b, m, e)
		}
		a, b = b, a
	}
}

// are: these summaries are these bytes, and the other way round.
func are(t *testing.T, what string, fs []api.Func, l []api.Summary, b []byte) {
	t.Helper()
	if got, e := sums.Encode(fs, l); e != api.OK || !slices.Equal(got, b) {
		t.Errorf("P9.4: %s: Encode: % x, error %d, want % x", what, got, e, b)
	}
	if got, e := sums.Decode(fs, b); e != api.OK || !slices.EqualFunc(got, l, alike) {
		t.Errorf("P9.5: %s: Decode of % x: %v, error %d, want %v", what, b, got, e, l)
	}
}

func notEncoded(t *testing.T, what string, fs []api.Func, l []api.Summary, want api.Errno) {
	t.Helper()
	if b, e := sums.Encode(fs, l); e != want || len(b) > 0 {
		t.Errorf("P9.4: %s: Encode: % x, error %d, want %d alone", what, b, e, want)
	}
}

func notDecoded(t *testing.T, what string, fs []api.Func, b []byte, want api.Errno) {
	t.Helper()
	if l, e := sums.Decode(fs, b); e != want || len(l) > 0 {
		t.Errorf("P9.5: %s: Decode of % x: %v, error %d, want %d alone", what, b, l, e, want)
	}
}

// resultIs: this result of the program is these bytes, and the other way round.
func resultIs(t *testing.T, what string, p api.Program, r api.Result, b []byte) {
	t.Helper()
	if got, e := sums.EncodeResult(p, r); e != api.OK || !slices.Equal(got, b) {
		t.Errorf("P9.6: %s: EncodeResult: %d bytes, error %d, the right bytes: %v", what, len(got), e, slices.Equal(got, b))
	}
	if got, e := sums.DecodeResult(p, b); e != api.OK || !alikeResults(got, r) {
		t.Errorf("P9.7: %s: DecodeResult: error %d, the right result: %v", what, e, alikeResults(got, r))
	}
}

func resultNotEncoded(t *testing.T, what string, p api.Program, r api.Result, want api.Errno) {
	t.Helper()
	if b, e := sums.EncodeResult(p, r); e != want || len(b) > 0 {
		t.Errorf("P9.6: %s: EncodeResult: %d bytes, error %d, want %d alone", what, len(b), e, want)
	}
}

func resultNotDecoded(t *testing.T, what string, p api.Program, b []byte, want api.Errno) {
	t.Helper()
	if r, e := sums.DecodeResult(p, b); e != want || !isNone(r) {
		t.Errorf("P9.7: %s: DecodeResult: error %d, want %d; no result: %v", what, e, want, isNone(r))
	}
}

func ret(args ...int) api.Instr { return api.Instr{Op: api.Return, Args: args} }

func makes(n int) api.Instr { return api.Instr{Op: api.New, N: 1 + n%api.MaxFields} }

// lies: the result in which all lies in the frame and nothing flows.
func lies(p api.Program) api.Result {
	var r api.Result
	for _, f := range p.Funcs {
		r.Sums = append(r.Sums, every(f, none))
		r.Vars = append(r.Vars, make([]bool, f.Vars))
		r.Code = append(r.Code, make([]bool, len(f.Code)))
	}
	return r
}

// mixed: two functions, with more than eight variables and News among other instructions.
func mixed(t *testing.T) (api.Program, api.Result) {
	t.Helper()
	var c []api.Instr
	for i := range 9 {
		c = append(c, makes(i), api.Instr{Op: api.Null, R: i}, makes(i))
	}
	p := api.Program{Globals: 1, Funcs: []api.Func{
		{Params: 1, Results: 2, Vars: 10, Code: append(c, ret(0, 9))},
		{Params: 2, Vars: 8, Code: []api.Instr{makes(3), ret()}},
	}}
	if e := code.Check(p); e != api.OK {
		t.Fatalf("no program: error %d", e)
	}
	r := lies(p)
	r.Sums[0] = sum([]int{3}, []int{0, none})
	r.Sums[1] = sum([]int{none, 1}, nil, nil)
	for _, v := range []int{1, 7, 9} {
		r.Vars[0][v] = true
	}
	for _, at := range []int{0, 5, 26} {
		r.Code[0][at] = true
	}
	r.Vars[1][7] = true
	return p, r
}

// some: so many of the numbers below n.
func some(r *rand.Rand, many, n int) []int {
	var l []int
	for range many {
		l = append(l, r.Intn(n))
	}
	return l
}

// anyProgram: a right one of a few functions, with many News.
func anyProgram(r *rand.Rand) api.Program {
	p := api.Program{Globals: r.Intn(3)}
	for range 1 + r.Intn(4) {
		f := api.Func{Params: r.Intn(4), Results: r.Intn(3)}
		f.Vars = 1 + f.Params + r.Intn(20)
		for range r.Intn(40) {
			in := api.Instr{Op: api.New, R: r.Intn(f.Vars), N: 1 + r.Intn(8)}
			if r.Intn(3) == 0 {
				in = api.Instr{Op: api.Copy, R: r.Intn(f.Vars), S: r.Intn(f.Vars)}
			}
			f.Code = append(f.Code, in)
		}
		f.Code = append(f.Code, ret(some(r, f.Results, f.Vars)...))
		p.Funcs = append(p.Funcs, f)
	}
	return p
}

func anySummary(r *rand.Rand, f api.Func) api.Summary {
	s := every(f, none)
	for _, n := range places(s) {
		*n = []int{0, 1, 2, 3, none}[r.Intn(5)]
	}
	return s
}

func anyResult(r *rand.Rand, p api.Program) api.Result {
	out := lies(p)
	for i, f := range p.Funcs {
		out.Sums[i] = anySummary(r, f)
		for v := range out.Vars[i] {
			out.Vars[i][v] = r.Intn(2) == 0
		}
		for at, in := range f.Code {
			out.Code[i][at] = in.Op == api.New && r.Intn(2) == 0
		}
	}
	return out
}
