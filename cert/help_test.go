package cert_test

import (
	"encoding/binary"
	"fmt"
	"math"
	"math/rand"
	"slices"
	"strings"
	"testing"

	"fugue/api"
	"fugue/cert"
	"fugue/solve"
	"fugue/text"
	"fugue/whole"
)

const none = api.None

// far: numbers that no summary has.
var far = []int{math.MinInt, -1 << 32, -256, -2, -1, 4, 8, 10, 256, 1 << 16, 1 << 32, math.MaxInt}

// fn: a function as text, its lines parted by semicolons.
func fn(params, results, vars int, lines string) string {
	return fmt.Sprintf("func params %d results %d vars %d\n", params, results, vars) + strings.ReplaceAll(lines, ";", "\n") + "\n"
}

// of: the program of these functions, with two globals.
func of(t *testing.T, funcs ...string) api.Program {
	t.Helper()
	lines := "globals 2\n" + strings.Join(funcs, "")
	p, e, line := text.Parse(lines)
	if e != api.OK {
		t.Fatalf("no program: error %d at line %d of\n%s", e, line, lines)
	}
	return p
}

// told: a right program's text.
func told(p api.Program) string {
	s, _ := text.Print(p)
	if len(s) > 3000 {
		return s[:3000] + ".."
	}
	return s
}

// brief: the beginning of long bytes tells enough.
func brief(b []byte) string {
	if len(b) > 80 {
		return fmt.Sprintf("%x and %d bytes more", b[:80], len(b)-80)
	}
	return fmt.Sprintf("%x", b)
}

// bytesOf: the bytes of a certificate with these passes.
func bytesOf(passes ...int) []byte {
	b := binary.LittleEndian.AppendUint32([]byte{0x63, 0x65}, uint32(len(passes)))
	for _, f := range passes {
		b = binary.LittleEndian.AppendUint16(b, uint16(f))
	}
	return b
}

// passesOf: the passes that the bytes of a certificate tell.
func passesOf(b []byte) ([]int, bool) {
	if len(b) < 6 || b[0] != 0x63 || b[1] != 0x65 || uint64(len(b)) != 6+2*uint64(binary.LittleEndian.Uint32(b[2:])) {
		return nil, false
	}
	var l []int
	for rest := b[6:]; len(rest) > 0; rest = rest[2:] {
		l = append(l, int(binary.LittleEndian.Uint16(rest)))
	}
	return l, true
}

func alikeSum(a, b api.Summary) bool {
	return slices.Equal(a.Heap, b.Heap) && slices.EqualFunc(a.Result, b.Result, slices.Equal)
}

func alikeSums(a, b []api.Summary) bool { return slices.EqualFunc(a, b, alikeSum) }

func alike(a, b api.Result) bool {
	return alikeSums(a.Sums, b.Sums) && slices.EqualFunc(a.Vars, b.Vars, slices.Equal) && slices.EqualFunc(a.Code, b.Code, slices.Equal)
}

func lowest(p api.Program) []api.Summary {
	var l []api.Summary
	for _, f := range p.Funcs {
		l = append(l, solve.Lowest(f))
	}
	return l
}

// made: what F makes of one function.
func made(p api.Program, f int, sums []api.Summary) api.Summary {
	_, s, e := solve.Function(p, f, sums)
	if e != api.OK {
		panic("the test asks F of what is not right")
	}
	return s
}

// gone: the summaries behind some passes, each of which names a function; did each of them change something?
func gone(p api.Program, passes []int) ([]api.Summary, bool) {
	sums, each := lowest(p), true
	for _, f := range passes {
		s := made(p, f, sums)
		each = each && !alikeSum(s, sums[f])
		sums[f] = s
	}
	return sums, each
}

// restless: the functions of which F makes another summary.
func restless(p api.Program, sums []api.Summary) []int {
	var l []int
	for f := range p.Funcs {
		if !alikeSum(made(p, f, sums), sums[f]) {
			l = append(l, f)
		}
	}
	return l
}

// rightBy: the chapter's words: are these passes right for the program and the result?
func rightBy(p api.Program, r api.Result, passes []int) bool {
	if slices.ContainsFunc(passes, func(f int) bool { return f >= len(p.Funcs) }) {
		return false
	}
	sums, each := gone(p, passes)
	return each && len(restless(p, sums)) == 0 && alike(placed(p, sums), r)
}

func placed(p api.Program, sums []api.Summary) api.Result {
	r, e := whole.Place(p, sums)
	if e != api.OK {
		panic("the test places what is not right")
	}
	return r
}

func solved(t *testing.T, p api.Program) api.Result {
	t.Helper()
	r, e := whole.Solve(p)
	if e != api.OK {
		t.Fatalf("no right program: error %d", e)
	}
	return r
}

func accepts(t *testing.T, what string, p api.Program, r api.Result, b []byte) {
	t.Helper()
	if e := cert.Check(p, r, b); e != api.OK {
		t.Errorf("P19.2: %s: Check with %s: error %d, want OK, of\n%s", what, brief(b), e, told(p))
	}
}

func refuses(t *testing.T, what string, p api.Program, r api.Result, b []byte) {
	t.Helper()
	if e := cert.Check(p, r, b); e != api.ErrCert {
		t.Errorf("P19.2: %s: Check with %s: error %d, want ErrCert, of\n%s", what, brief(b), e, told(p))
	}
}

// checks: bytes pass just if the words say so; do they?
func checks(t *testing.T, what string, p api.Program, r api.Result, b []byte) bool {
	t.Helper()
	passes, is := passesOf(b)
	is = is && rightBy(p, r, passes)
	if is {
		accepts(t, what, p, r, b)
	} else {
		refuses(t, what, p, r, b)
	}
	return is
}

// makes: Make's passes, which are right by the words and pass.
func makes(t *testing.T, what string, p api.Program) []int {
	t.Helper()
	b, e := cert.Make(p)
	passes, is := passesOf(b)
	if e != api.OK || !is {
		t.Fatalf("P19.1: %s: Make: %s, error %d, of\n%s", what, brief(b), e, told(p))
	}
	r := solved(t, p)
	if !rightBy(p, r, passes) {
		t.Fatalf("P19.1: %s: Make: %s is not right, of\n%s", what, brief(b), told(p))
	}
	accepts(t, what, p, r, b)
	return passes
}

// copied: the same result in new memory.
func copied(r api.Result) api.Result {
	c := api.Result{Sums: slices.Clone(r.Sums), Vars: slices.Clone(r.Vars), Code: slices.Clone(r.Code)}
	for i, s := range c.Sums {
		c.Sums[i] = api.Summary{Heap: slices.Clone(s.Heap), Result: slices.Clone(s.Result)}
		for k, l := range s.Result {
			c.Sums[i].Result[k] = slices.Clone(l)
		}
	}
	for i := range c.Vars {
		c.Vars[i] = slices.Clone(c.Vars[i])
	}
	for i := range c.Code {
		c.Code[i] = slices.Clone(c.Code[i])
	}
	return c
}

// places: where the numbers of summaries stand.
func places(l []api.Summary) []*int {
	var at []*int
	for _, s := range l {
		for i := range s.Heap {
			at = append(at, &s.Heap[i])
			for j := range s.Result[i] {
				at = append(at, &s.Result[i][j])
			}
		}
	}
	return at
}

// truths: where the truths of a result stand.
func truths(r api.Result) []*bool {
	var at []*bool
	for _, l := range slices.Concat(r.Vars, r.Code) {
		for i := range l {
			at = append(at, &l[i])
		}
	}
	return at
}

func ret(args ...int) api.Instr { return api.Instr{Op: api.Return, Args: args} }

func call(n int, args, rets []int) api.Instr {
	return api.Instr{Op: api.Call, N: n, Args: args, Rets: rets}
}

// some: so many of the numbers below n.
func some(r *rand.Rand, many, n int) []int {
	var l []int
	for range many {
		l = append(l, r.Intn(n))
	}
	return l
}
