package incr_test

import (
	"math/rand"
	"slices"
	"testing"

	"fugue/api"
	"fugue/calls"
	"fugue/code"
	"fugue/engine"
	"fugue/incr"
	"fugue/sums"
)

// Programs and changes by chance: what was solved anew is what the words say, the result is that of the program as it is.
func TestAnyChanges(t *testing.T) {
	var why reasons
	for seed := range 1200 {
		r := rand.New(rand.NewSource(int64(seed)))
		p := anyProgram(r, 1+seed%10)
		s := begun(t, p)
		for range 12 {
			at, fs := anyChange(r, p)
			q := changed(p, at, fs)
			solves(t, "any change", s, at, fs, plainAnew(t, p, q, at, &why)...)
			p = q
		}
	}
	if why.handed < 5000 || why.fresh < 100 || why.called < 500 || why.quiet < 500 || why.kept < 5000 {
		t.Errorf("too few of a kind: %+v", why)
	}
}

// The plain components are those of the layer below.
func TestPlainComponents(t *testing.T) {
	for seed := range 300 {
		p := anyProgram(rand.New(rand.NewSource(int64(seed))), 12)
		g, _ := calls.New(p)
		l := plainComponents(p)
		if g.Len() != len(l) {
			t.Fatalf("%d components, not %v", g.Len(), l)
		}
		for c := range l {
			if !slices.Equal(g.Members(c), l[c]) {
				t.Fatalf("the component %d: %v, not %v", c, g.Members(c), l[c])
			}
		}
	}
}

// wronged: an instruction, a head or a number in a change becomes another one, most often one that may not be.
func wronged(r *rand.Rand, at []int, fs []api.Func) ([]int, []api.Func) {
	at, fs = slices.Clone(at), slices.Clone(fs)
	if len(fs) == 0 {
		return []int{r.Intn(4) - 2}, fs
	}
	k := r.Intn(len(fs))
	f := &fs[k]
	f.Code = slices.Clone(f.Code)
	x := &f.Code[r.Intn(len(f.Code))]
	n := r.Intn(12) - 2
	switch r.Intn(9) {
	case 0:
		f.Params = n
	case 1:
		f.Results = n
	case 2:
		f.Vars = n
	case 3:
		x.N = n
	case 4:
		x.R = n
	case 5:
		x.Op = n
	case 6:
		at[k] = n
	case 7:
		fs = fs[1:]
	case 8:
		f.Code = f.Code[:len(f.Code)-1]
	}
	return at, fs
}

// Changes that are wrong by chance: the error is the one that the words say, nothing has changed, and what follows is as if they had not been.
func TestAnyWrongChanges(t *testing.T) {
	errors := map[api.Errno]int{}
	for seed := range 400 {
		r := rand.New(rand.NewSource(int64(seed)))
		p := anyProgram(r, 1+seed%8)
		s := begun(t, p)
		for range 12 {
			at, fs := anyChange(r, p)
			badAt, bad := wronged(r, at, fs)
			e := api.ErrArg
			if len(badAt) == len(bad) && mayBe(badAt, len(p.Funcs)) {
				e = code.Check(changed(p, badAt, bad))
			}
			errors[e]++
			if e == api.OK {
				at, fs = badAt, bad
			} else {
				refuses(t, "any wrong change", s, badAt, bad, e)
			}
			q := changed(p, at, fs)
			solves(t, "behind any wrong change", s, at, fs, plainAnew(t, p, q, at, &reasons{})...)
			p = q
		}
	}
	for _, e := range []api.Errno{api.OK, api.ErrArg, api.ErrOp, api.ErrVar, api.ErrFunc, api.ErrArity, api.ErrJump, api.ErrField, api.ErrGlobal, api.ErrEnd, api.ErrHead} {
		if errors[e] < 3 {
			t.Errorf("only %d changes had the error %d", errors[e], e)
		}
	}
}

// Whichever way a program comes to be, its session is the same: what is solved by the next change hangs on the program alone.
func TestTheWayDoesNotMatter(t *testing.T) {
	for seed := range 300 {
		r := rand.New(rand.NewSource(int64(seed)))
		p := anyProgram(r, 8)
		s := begun(t, p)
		for range 5 {
			at, fs := anyChange(r, p)
			p = changed(p, at, fs)
			s.Change(at, fs)
		}
		fresh := begun(t, p)
		for range 3 {
			at, fs := anyChange(r, p)
			p = changed(p, at, fs)
			a, _ := s.Change(at, fs)
			if b, _ := fresh.Change(at, fs); !alikeLists(a, b) {
				t.Fatalf("R6: seed %d: a session that came that way: %v, a new one: %v", seed, a, b)
			}
		}
		stands(t, "the way", s, p)
	}
}

// W9: behind any changes the result's bytes are those of the engine.
func TestEngineAgrees(t *testing.T) {
	for seed := range 200 {
		r := rand.New(rand.NewSource(int64(seed)))
		s := begun(t, anyProgram(r, 8))
		for range 5 {
			at, fs := anyChange(r, s.Program())
			s.Change(at, fs)
			b, _ := code.Encode(s.Program())
			a := engine.Analyze(b, 1+r.Intn(64), some(r, 20, 64)...)
			l, e := sums.EncodeResult(s.Program(), s.Result())
			if e != api.OK || a.Err != api.OK || !slices.Equal(l, a.Bytes) {
				t.Fatalf("W9: seed %d: the bytes %x, error %d, want %x", seed, l, e, a.Bytes)
			}
		}
	}
}

// All changes of one function for another, of few functions with one parameter each: the calls are all that there may be, and what each does besides is one of a few things.
func TestAllSmallChanges(t *testing.T) {
	var bodies []api.Func
	for _, lines := range []string{back, store, on("f0"), round("f1"), "g0 = v0;v1 = f0(v0);return v1", "v1 = f0(v0);v1 = f1(v1);return v0"} {
		bodies = append(bodies, one(t, lines))
	}
	var why reasons
	eachList(4, 0, len(bodies)-1, func(l []int) {
		p := api.Program{Globals: 2, Funcs: []api.Func{bodies[l[0]], bodies[l[1]], bodies[l[2]]}}
		for n := range 4 {
			s, e := incr.New(p)
			if e != api.OK {
				t.Fatalf("no program: error %d", e)
			}
			at, fs := []int{n}, bodies[l[3]:l[3]+1]
			solves(t, "a small change", s, at, fs, plainAnew(t, p, changed(p, at, fs), at, &why)...)
		}
	})
	if why.handed < 100 || why.fresh < 50 || why.called < 100 || why.quiet < 100 {
		t.Errorf("too few of a kind: %+v", why)
	}
}
