package cache_test

import (
	"fmt"
	"slices"
	"strings"
	"testing"

	"fugue/api"
	"fugue/cache"
	"fugue/calls"
	"fugue/cert"
	"fugue/code"
	"fugue/solve"
	"fugue/sums"
	"fugue/text"
	"fugue/whole"
)

// The chapter's words, written down as plainly as they are said: closed programs as text, caches as maps.

// plainStub: the stub of a summary, as text.
func plainStub(f api.Func, s api.Summary) string {
	next := f.Params + f.Results
	var lines []string
	loads := func(v, d int) int {
		for ; d > 0; d-- {
			lines = append(lines, fmt.Sprintf("v%d = v%d.0", next, v))
			v = next
			next++
		}
		return v
	}
	var back []string
	for j := range f.Results {
		back = append(back, fmt.Sprintf("v%d", f.Params+j))
	}
	for i := range f.Params {
		if d := s.Heap[i]; d != none {
			v := loads(i, d)
			lines = append(lines, fmt.Sprintf("g0 = v%d", v))
		}
		for j := range f.Results {
			if d := s.Result[i][j]; d != none {
				v := loads(i, d)
				lines = append(lines, fmt.Sprintf("v%d = v%d", f.Params+j, v))
			}
		}
	}
	lines = append(lines, "return "+strings.Join(back, ", "))
	return fn(f.Params, f.Results, next, strings.Join(lines, ";"))
}

// plainClosed: the closed program of some functions, as text.
func plainClosed(p api.Program, members []int, l []api.Summary) string {
	var funcs, stubs []string
	for _, m := range members {
		var lines []string
		for _, x := range p.Funcs[m].Code {
			if x.Op == api.Call {
				n := slices.Index(members, x.N)
				if n < 0 {
					s := plainStub(p.Funcs[x.N], l[x.N])
					if !slices.Contains(stubs, s) {
						stubs = append(stubs, s)
					}
					n = len(members) + slices.Index(stubs, s)
				}
				x.N = n
			}
			lines = append(lines, text.Instr(x))
		}
		f := p.Funcs[m]
		funcs = append(funcs, fn(f.Params, f.Results, f.Vars, strings.Join(lines, ";")))
	}
	return "globals 16\n" + strings.Join(funcs, "") + strings.Join(stubs, "")
}

// plainCache: entries by their keys.
type plainCache map[string]item

func plainOf(l []item) plainCache {
	c := plainCache{}
	for _, x := range l {
		c[x.key] = x
	}
	return c
}

func (c plainCache) bytes() []byte {
	var l []item
	for _, x := range c {
		l = append(l, x)
	}
	slices.SortFunc(l, func(a, b item) int { return strings.Compare(a.key, b.key) })
	return bytesOf(l...)
}

// believes: does an entry count, for the program of its key?
func believes(p api.Program, x item) bool {
	r, e := sums.DecodeResult(p, []byte(x.result))
	return e == api.OK && cert.Check(p, r, []byte(x.certificate)) == api.OK
}

// right: the entry that a closed program comes to have.
func right(t *testing.T, p api.Program) item {
	t.Helper()
	key, e := code.Encode(p)
	r, e1 := whole.Solve(p)
	result, e2 := sums.EncodeResult(p, r)
	certificate, e3 := cert.Make(p)
	if e+e1+e2+e3 != api.OK {
		t.Fatalf("no entry of\n%s", told(p))
	}
	return item{string(key), string(result), string(certificate)}
}

// seen: how often something happened in what the plain cache solved.
type seen struct {
	believed, lied, fresh, rings, stubs, several int
}

// solve: the passes that a program takes; the cache learns.
func (c plainCache) solve(t *testing.T, p api.Program, how *seen) int {
	t.Helper()
	g, _ := calls.New(p)
	l := solved(t, p).Sums
	passes := 0
	for n := range g.Len() {
		members := g.Members(n)
		q, e, line := text.Parse(plainClosed(p, members, l))
		if line > 0 {
			t.Fatalf("the closed program's text is none: line %d", line)
		}
		x, there := c[encodedOr(q, e)]
		if e == api.OK && there && believes(q, x) {
			how.believed++
			continue
		}
		_, took, _ := solve.Component(p, g, n, l)
		passes += took
		if e != api.OK {
			continue
		}
		x = right(t, q)
		c[x.key] = x
		how.count(there, len(members), len(q.Funcs))
	}
	return passes
}

func (s *seen) count(there bool, members, funcs int) {
	if there {
		s.lied++
	} else {
		s.fresh++
	}
	if members > 1 {
		s.rings++
	}
	if funcs > members {
		s.stubs++
	}
	if funcs > members+1 {
		s.several++
	}
}

// encodedOr: a program's bytes, or what is no key, if it is not right.
func encodedOr(p api.Program, e api.Errno) string {
	b, _ := code.Encode(p)
	if e != api.OK {
		return "no key"
	}
	return string(b)
}

// agrees: a cache's Solve does what the plain one's does.
func agrees(t *testing.T, what string, c *cache.Cache, plain plainCache, p api.Program, how *seen) {
	t.Helper()
	solves(t, what, c, p, plain.solve(t, p, how))
	if got, want := c.Bytes(), plain.bytes(); string(got) != string(want) {
		t.Fatalf("P21.1: %s: the entries are not those that they should be: %s, want %s, of\n%s", what, brief(got), brief(want), told(p))
	}
}

// tried: what a program comes to with such entries, and then once more.
func tried(t *testing.T, what string, p api.Program, l ...item) {
	t.Helper()
	plain := plainOf(l)
	c := loaded(t, plain.bytes())
	agrees(t, what, c, plain, p, &seen{})
	agrees(t, what+", again", c, plain, p, &seen{})
}
