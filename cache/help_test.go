package cache_test

import (
	"bytes"
	"encoding/binary"
	"fmt"
	"slices"
	"strings"
	"testing"

	"fugue/api"
	"fugue/cache"
	"fugue/code"
	"fugue/text"
	"fugue/whole"
)

const none = api.None

// fn: a function as text, its lines parted by semicolons.
func fn(params, results, vars int, lines string) string {
	return fmt.Sprintf("func params %d results %d vars %d\n", params, results, vars) + strings.ReplaceAll(lines, ";", "\n") + "\n"
}

// with: the program of these functions, with so many globals.
func with(t *testing.T, globals int, funcs ...string) api.Program {
	t.Helper()
	lines := fmt.Sprintf("globals %d\n", globals) + strings.Join(funcs, "")
	p, e, line := text.Parse(lines)
	if e != api.OK {
		t.Fatalf("no program: error %d at line %d of\n%s", e, line, lines)
	}
	return p
}

// of: one with two globals.
func of(t *testing.T, funcs ...string) api.Program {
	t.Helper()
	return with(t, 2, funcs...)
}

// cut: the beginning of what is long tells enough.
func cut(s string) string {
	if len(s) > 3000 {
		return s[:3000] + ".."
	}
	return s
}

func brief(x any) string { return cut(fmt.Sprintf("%+v", x)) }

// told: a right program's text.
func told(p api.Program) string {
	s, _ := text.Print(p)
	return cut(s)
}

func ret(args ...int) api.Instr { return api.Instr{Op: api.Return, Args: args} }

func call(n int, args, rets []int) api.Instr {
	return api.Instr{Op: api.Call, N: n, Args: args, Rets: rets}
}

func alikeSum(a, b api.Summary) bool {
	return slices.Equal(a.Heap, b.Heap) && slices.EqualFunc(a.Result, b.Result, slices.Equal)
}

func alikeResult(a, b api.Result) bool {
	return slices.EqualFunc(a.Sums, b.Sums, alikeSum) && slices.EqualFunc(a.Vars, b.Vars, slices.Equal) && slices.EqualFunc(a.Code, b.Code, slices.Equal)
}

func noResult(r api.Result) bool { return len(r.Sums)+len(r.Vars)+len(r.Code) == 0 }

func solved(t *testing.T, p api.Program) api.Result {
	t.Helper()
	r, e := whole.Solve(p)
	if e != api.OK {
		t.Fatalf("no right program: error %d", e)
	}
	return r
}

func encoded(t *testing.T, p api.Program) string {
	t.Helper()
	b, e := code.Encode(p)
	if e != api.OK {
		t.Fatalf("no right program: error %d", e)
	}
	return string(b)
}

// item: an entry as its bytes tell it.
type item struct {
	key, result, certificate string
}

// bytesOf: the bytes that these entries would be, in this order, whether they are a cache's or not.
func bytesOf(items ...item) []byte {
	b := []byte{0x66, 0x67, 0x02}
	for _, x := range items {
		for _, part := range []string{x.key, x.result, x.certificate} {
			b = append(binary.LittleEndian.AppendUint32(b, uint32(len(part))), part...)
		}
	}
	return b
}

// itemsOf: the entries of the bytes of a cache; false, if they are those of none.
func itemsOf(b []byte) ([]item, bool) {
	rest, is := strings.CutPrefix(string(b), "\x66\x67\x02")
	if !is {
		return nil, false
	}
	var parts []string
	for len(rest) > 0 {
		if len(rest) < 4 {
			return nil, false
		}
		n := uint64(binary.LittleEndian.Uint32([]byte(rest)))
		if uint64(len(rest)) < 4+n {
			return nil, false
		}
		parts, rest = append(parts, rest[4:4+n]), rest[4+n:]
	}
	if len(parts)%3 > 0 {
		return nil, false
	}
	var l []item
	for ; len(parts) > 0; parts = parts[3:] {
		if len(l) > 0 && bytes.Compare([]byte(l[len(l)-1].key), []byte(parts[0])) >= 0 {
			return nil, false
		}
		l = append(l, item{parts[0], parts[1], parts[2]})
	}
	return l, true
}

func loaded(t *testing.T, b []byte) *cache.Cache {
	t.Helper()
	c, e := cache.Load(b)
	if c == nil || e != api.OK {
		t.Fatalf("P21.3: Load of %s: error %d", brief(b), e)
	}
	if got := c.Bytes(); !bytes.Equal(got, b) {
		t.Fatalf("P21.3: Bytes of what was loaded: %s, want %s", brief(got), brief(b))
	}
	return c
}

// items: the entries of a cache.
func items(t *testing.T, c *cache.Cache) []item {
	t.Helper()
	l, is := itemsOf(c.Bytes())
	if !is {
		t.Fatalf("P21.3: Bytes are those of no cache: %s", brief(c.Bytes()))
	}
	return l
}

// solves: the least solution's result, with so many passes.
func solves(t *testing.T, what string, c *cache.Cache, p api.Program, passes int) {
	t.Helper()
	r, n, e := c.Solve(p)
	if want := solved(t, p); e != api.OK || !alikeResult(r, want) {
		t.Fatalf("P21.2: %s: Solve: %s, error %d, want %s, of\n%s", what, brief(r), e, brief(want), told(p))
	}
	if n != passes {
		t.Fatalf("P21.1: %s: %d passes, want %d, of\n%s", what, n, passes, told(p))
	}
}

// refuses: the error alone, and the cache is as it was.
func refuses(t *testing.T, what string, c *cache.Cache, p api.Program, want api.Errno) {
	t.Helper()
	before := c.Bytes()
	if r, n, e := c.Solve(p); e != want || n != 0 || !noResult(r) {
		t.Errorf("P21.1: %s: Solve: %s, %d passes, error %d, want the error %d alone", what, brief(r), n, e, want)
	}
	if !bytes.Equal(c.Bytes(), before) {
		t.Errorf("R2: %s: with an error the cache has changed", what)
	}
}
