package cert_test

import (
	"fmt"
	"slices"
	"strings"
	"testing"

	"fugue/api"
	"fugue/cert"
)

// falls: the code of f0, whose one number goes down step by step, since it hands the address of its parameter to itself.
const falls = "v1 = v0.0;v2 = v1.0;v3 = v2.0;g0 = v3;v4 = &v0;f0(v4);return"

// listed: passes as text.
func listed(passes []int) string { return strings.Trim(fmt.Sprint(passes), "[]") }

// eachList: all lists of at most so many of the numbers below n.
func eachList(n, most int, do func([]int)) {
	level := [][]int{nil}
	for range most + 1 {
		var next [][]int
		for _, l := range level {
			do(l)
			for f := range n {
				next = append(next, append(slices.Clone(l), f))
			}
		}
		level = next
	}
}

// just: of all lists of passes that are at most so long, these are right, and no others; Make gives one of them. Among the passes is one that names no function.
func just(t *testing.T, what string, p api.Program, most int, want ...string) {
	t.Helper()
	r := solved(t, p)
	var got []string
	eachList(len(p.Funcs)+1, most, func(l []int) {
		switch e := cert.Check(p, r, bytesOf(l...)); e {
		case api.OK:
			got = append(got, listed(l))
		case api.ErrCert:
		default:
			t.Errorf("P19.2: %s: Check with the passes %v: error %d", what, l, e)
		}
	})
	slices.Sort(got)
	slices.Sort(want)
	if !slices.Equal(got, want) {
		t.Errorf("P19.2: %s: these pass: %q, want %q", what, got, want)
	}
	if l := listed(makes(t, what, p)); !slices.Contains(want, l) {
		t.Errorf("P19.1: %s: Make gives the passes %s, want one of %q", what, l, want)
	}
}

func TestNothingToDo(t *testing.T) {
	const empty = ""
	just(t, "the least program", of(t, fn(0, 0, 0, "return")), 5, empty)
	just(t, "no parameters", of(t, fn(0, 2, 2, "v0 = &v1;g0 = v0;v1 = f1();return v0, v1"), fn(0, 1, 1, "v0 = new 1;return v0")), 4, empty)
	just(t, "parameters that flow nowhere", of(t, fn(2, 1, 3, "print v0;v2 = v0 + v1;return v2"), fn(1, 0, 2, "v0.0 = v1;jump 0"), fn(1, 0, 2, "v1 = v0;v0 = null;return")), 3, empty)
	just(t, "a parameter for ever handed on", of(t, fn(1, 1, 2, "v1 = f0(v0);return v1")), 5, empty)
	just(t, "a ring that hands it on for ever", of(t, fn(1, 1, 2, "v1 = f1(v0);return v1"), fn(1, 1, 2, "v1 = f0(v0);return v1")), 5, empty)
}

func TestOneFunction(t *testing.T) {
	just(t, "what is set into a global", of(t, fn(1, 0, 1, "g0 = v0;return")), 5, "0")
	just(t, "many numbers in one pass", of(t, fn(2, 2, 3, "g0 = v0;v2 = v1.0;return v0, v2")), 5, "0")
	just(t, "a ring of one, that falls once", of(t, fn(1, 1, 2, "if v0 jump 3;v1 = f0(v0);return v1;return v0")), 5, "0")
	just(t, "one that falls step by step", of(t, fn(1, 0, 5, falls)), 9, "0 0 0 0")
	just(t, "one whose heap follows its result", of(t, fn(1, 1, 6, "v1 = v0.0;v2 = v1.0;v3 = v2.0;v4 = &v0;v3 = f0(v4);return v3")), 9, "0 0 0 0 0")
	just(t, "one that is never called", of(t, fn(0, 0, 0, "return"), fn(1, 1, 1, "return v0")), 5, "1")
	just(t, "one whose code is not reached", of(t, fn(1, 0, 1, "return;g1 = v0;return")), 5, "0")
}

func TestChains(t *testing.T) {
	just(t, "a chain", of(t, fn(1, 0, 1, "f1(v0);return"), fn(1, 0, 1, "f2(v0);return"), fn(1, 0, 1, "g0 = v0;return")), 6, "2 1 0")
	just(t, "a chain the other way", of(t, fn(1, 0, 1, "g0 = v0;return"), fn(1, 0, 1, "f0(v0);return"), fn(1, 0, 1, "f1(v0);return")), 6, "0 1 2")
	just(t, "a chain that ends in nothing", of(t, fn(1, 0, 1, "f1(v0);return"), fn(1, 0, 1, "f2(v0);return"), fn(1, 0, 1, "return")), 4, "")
	just(t, "two that know nothing of one another", of(t, fn(1, 0, 1, "g0 = v0;return"), fn(1, 1, 1, "return v0")), 6, "0 1", "1 0")
	just(t, "two that one calls", of(t, fn(2, 0, 2, "f1(v0);f2(v1);return"), fn(1, 0, 1, "g0 = v0;return"), fn(1, 0, 1, "g1 = v0;return")), 5, "1 2 0", "2 1 0", "1 0 2 0", "2 0 1 0")
	just(t, "one that says something without its callee", of(t, fn(2, 0, 2, "f1(v0);g0 = v1;return"), fn(1, 0, 1, "g0 = v0;return")), 6, "1 0", "0 1 0")
}

// One that falls step by step, and one that looks at it, now and then or each time.
func TestFewerPasses(t *testing.T) {
	looks := of(t, fn(1, 0, 5, falls), fn(1, 0, 1, "f0(v0);return"))
	just(t, "one that looks on", looks, 9, "0 0 0 0 1", "0 1 0 0 0 1", "0 0 1 0 0 1", "0 0 0 1 0 1", "0 1 0 1 0 0 1", "0 1 0 0 1 0 1", "0 0 1 0 1 0 1", "0 1 0 1 0 1 0 1")
}

func TestRings(t *testing.T) {
	const hand = "v1 = v0.0;f1(v1);return"
	just(t, "a ring", of(t, fn(1, 0, 2, hand), fn(1, 0, 1, "g0 = v0;f0(v0);return")), 7, "1 0")
	just(t, "a ring where both begin", of(t, fn(1, 0, 2, hand+";g0 = v1;return"), fn(1, 0, 2, "v1 = v0.0;g0 = v1;f0(v1);return")), 7, "0 1", "1 0")
	just(t, "a ring of three", of(t, fn(1, 0, 1, "f1(v0);return"), fn(1, 0, 1, "f2(v0);return"), fn(1, 0, 1, "f0(v0);g0 = v0;return")), 6, "2 1 0")
	just(t, "a ring that falls step by step", of(t, fn(1, 0, 2, "v1 = &v0;f1(v1);return"), fn(1, 0, 4, "v1 = v0.0;v2 = v1.0;v3 = v2.0;g0 = v3;f0(v0);return")), 10, "1 0 1 0 1 0 1")
	just(t, "a ring and one that calls it", of(t, fn(1, 0, 1, "f1(v0);return"), fn(1, 0, 1, "f2(v0);return"), fn(1, 0, 1, "g0 = v0;f1(v0);return")), 6, "2 1 0")
}
