package cert_test

import (
	"math/rand"
	"slices"
	"testing"

	"fugue/api"
	"fugue/cert"
)

// seen: how many certificates of programs by chance passed, and how many did not.
type seen struct {
	passed, refused int
}

func (s *seen) count(is bool) {
	if is {
		s.passed++
	} else {
		s.refused++
	}
}

func (s *seen) enough(t *testing.T, what string, passed, refused int) {
	t.Helper()
	if s.passed < passed || s.refused < refused {
		t.Errorf("%s: only %d passed, and only %d were refused", what, s.passed, s.refused)
	}
}

// eachAny: programs by chance, their results and Make's passes.
func eachAny(t *testing.T, seeds int, do func(r *rand.Rand, p api.Program, result api.Result, passes []int)) {
	t.Helper()
	long := 0
	for seed := range seeds {
		r := rand.New(rand.NewSource(int64(seed)))
		p := anyProgram(r, kinds[seed%len(kinds)])
		passes := makes(t, "any program", p)
		if len(passes) > 4 {
			long++
		}
		do(r, p, solved(t, p), passes)
	}
	if long < seeds/20 {
		t.Errorf("only %d of %d programs have more than four passes", long, seeds)
	}
}

// walked: passes as they come, each of which changes something, until nothing changes.
func walked(r *rand.Rand, p api.Program) []int {
	var passes []int
	for {
		sums, _ := gone(p, passes)
		l := restless(p, sums)
		if len(l) == 0 {
			return passes
		}
		passes = append(passes, l[r.Intn(len(l))])
	}
}

// P19.1, W8: Make's bytes are those that the words say, and pass for the least solution's result and for no other.
func TestMakeOfAny(t *testing.T) {
	eachAny(t, 1500, func(r *rand.Rand, p api.Program, result api.Result, passes []int) {
		b, e := cert.Make(p)
		if e != api.OK || !slices.Equal(b, bytesOf(passes...)) {
			t.Fatalf("P19.1: Make: %x, error %d, want %x", b, e, bytesOf(passes...))
		}
		eachOther(result, func(what string, other api.Result) {
			if r.Intn(20) == 0 {
				refuses(t, what, p, other, b)
			}
		})
	})
}

// Any passes each of which changes something, and behind which nothing changes, pass.
func TestAnyOrder(t *testing.T) {
	others, fewer := 0, 0
	eachAny(t, 700, func(r *rand.Rand, p api.Program, result api.Result, passes []int) {
		for range 3 {
			l := walked(r, p)
			accepts(t, "any order", p, result, bytesOf(l...))
			if len(l) > 0 {
				refuses(t, "any order without its end", p, result, bytesOf(l[:len(l)-1]...))
			}
			for f := range p.Funcs {
				refuses(t, "any order and one more", p, result, bytesOf(append(slices.Clone(l), f)...))
			}
			if !slices.Equal(l, passes) {
				others++
			}
			if len(l) != len(passes) {
				fewer++
			}
		}
	})
	if others < 300 || fewer < 100 {
		t.Errorf("only %d other orders, only %d of another length", others, fewer)
	}
}

// A right certificate with one pass left out, put in, made another one, or with two changed about: each passes just if the words say so.
func TestChangedPasses(t *testing.T) {
	var out, in, other, about seen
	eachAny(t, 500, func(r *rand.Rand, p api.Program, result api.Result, passes []int) {
		if r.Intn(2) == 0 {
			passes = walked(r, p)
		}
		if len(passes) > 12 {
			return
		}
		try := func(s *seen, what string, l []int) { s.count(checks(t, what, p, result, bytesOf(l...))) }
		for at := range len(passes) + 1 {
			for f := range len(p.Funcs) + 1 {
				try(&in, "one put in", slices.Insert(slices.Clone(passes), at, f))
			}
		}
		for at := range passes {
			try(&out, "one left out", slices.Delete(slices.Clone(passes), at, at+1))
			for f := range len(p.Funcs) + 1 {
				if f != passes[at] {
					l := slices.Clone(passes)
					l[at] = f
					try(&other, "another one", l)
				}
			}
			for to := range at {
				if passes[at] != passes[to] {
					l := slices.Clone(passes)
					l[at], l[to] = l[to], l[at]
					try(&about, "two changed about", l)
				}
			}
		}
	})
	out.enough(t, "one left out", 10, 200)
	in.enough(t, "one put in", 100, 1000)
	other.enough(t, "another one", 5, 1000)
	about.enough(t, "two changed about", 100, 200)
}

// Bytes that are changed anywhere, cut, or made longer.
func TestChangedBytes(t *testing.T) {
	var s seen
	eachAny(t, 700, func(r *rand.Rand, p api.Program, result api.Result, passes []int) {
		b := bytesOf(passes...)
		for range 20 {
			c := slices.Clone(b)
			for range 1 + r.Intn(2) {
				switch at := r.Intn(len(c) + 1); {
				case at == len(c):
					c = append(c, byte(r.Intn(4)))
				case r.Intn(3) == 0:
					c = slices.Delete(c, at, at+1)
				case r.Intn(2) == 0:
					c = slices.Insert(c, at, byte(r.Intn(4)))
				case r.Intn(2) == 0:
					c[at] = byte(r.Intn(len(p.Funcs) + 1))
				default:
					c[at] ^= 1 << r.Intn(8)
				}
			}
			s.count(checks(t, "changed bytes", p, result, c))
		}
	})
	s.enough(t, "changed bytes", 10, 1000)
}

// The empty certificate is right just for programs whose lowest summaries are the solution.
func TestEmptyCertificate(t *testing.T) {
	var s seen
	eachAny(t, 1500, func(r *rand.Rand, p api.Program, result api.Result, passes []int) {
		is := len(restless(p, lowest(p))) == 0
		s.count(is)
		if is != alikeSums(result.Sums, lowest(p)) || is != (len(passes) == 0) {
			t.Fatalf("P19.1: the passes %v, where the lowest summaries are the solution: %v, of\n%s", passes, is, told(p))
		}
		want := api.ErrCert
		if is {
			want = api.OK
		}
		if e := cert.Check(p, result, bytesOf()); e != want {
			t.Fatalf("P19.2: the empty certificate: error %d, want %d, of\n%s", e, want, told(p))
		}
	})
	s.enough(t, "the empty certificate", 100, 500)
}

// All short lists of passes of small programs.
func TestAllPasses(t *testing.T) {
	var s seen
	for seed := range 600 {
		r := rand.New(rand.NewSource(int64(seed)))
		p := anyProgram(r, kind{3, 16, 6, seed%2 == 0})
		result := solved(t, p)
		eachList(len(p.Funcs), 5, func(l []int) { s.count(checks(t, "all passes", p, result, bytesOf(l...))) })
	}
	s.enough(t, "all passes", 500, 10000)
}

// Results that are no solution's, and those of other programs, pass with no passes that come to them.
func TestAnyResults(t *testing.T) {
	var s seen
	eachAny(t, 500, func(r *rand.Rand, p api.Program, result api.Result, passes []int) {
		sums := lowest(p)
		for _, x := range places(sums) {
			*x = []int{0, 1, 2, 3, none, none}[r.Intn(6)]
		}
		q := anyProgram(r, kinds[r.Intn(len(kinds))])
		for _, other := range []api.Result{result, placed(p, sums), solved(t, q)} {
			for _, l := range [][]int{passes, walked(r, p), some(r, r.Intn(5), len(p.Funcs)), walked(r, q)} {
				s.count(checks(t, "any result", p, other, bytesOf(l...)))
			}
		}
	})
	s.enough(t, "any results", 500, 1000)
}
