package inline_test

import (
	"math/rand"
	"slices"
	"testing"

	"fugue/api"
	"fugue/code"
)

// kinds: small programs with many calls; some whose variables, and some whose instructions, come to the limits.
var kinds = []kind{{6, 9, 6, 3, false}, {9, 14, 3, 6, false}, {5, 20, 120, 5, false}, {6, 20, 5, 9, true}, {4, 300, 5, 9, false}}

func TestAsThePlainOne(t *testing.T) {
	some, several, long := 0, 0, 0
	for seed := range 3000 {
		r := rand.New(rand.NewSource(int64(seed)))
		k := kinds[seed%len(kinds)]
		p := anyProgram(r, k)
		ms := part(r, made(t, p, r.Intn(2*k.code), r.Intn(10*k.code)))
		q := applied(t, "by chance", p, ms)
		if got, want := told(t, q), plainText(p, ms); got != want {
			t.Fatalf("P17.2: seed %d: %s of\n%s\nis\n%s\nwant\n%s", seed, brief(ms), short(told(t, p)), short(got), short(want))
		}
		if len(ms) > 0 {
			some++
		}
		if slices.ContainsFunc(ms, func(m api.Move) bool { return m.Func != ms[0].Func }) {
			several++
		}
		if len(ms) > 5 {
			long++
		}
	}
	if some < 800 || several < 400 || long < 200 {
		t.Errorf("the plans are too much alike: %d with moves, %d with moves of several functions, %d with more than five", some, several, long)
	}
}

// grown: what chapter 16 says of a function behind its moves, and how many locations its moves bring.
func grown(p api.Program, n int, ms []api.Move) (vars, instrs, locations int) {
	f := p.Funcs[n]
	vars, instrs = f.Vars, len(f.Code)
	for _, m := range ms {
		if m.Func != n {
			continue
		}
		g := p.Funcs[f.Code[m.At].N]
		vars += g.Vars
		instrs += g.Vars - 1
		locations += g.Vars
		for _, x := range g.Code {
			switch x.Op {
			case api.Return:
				instrs += g.Results + 1
			case api.New:
				locations++
				instrs++
			default:
				instrs++
			}
		}
	}
	return vars, instrs, locations
}

// The sizes that chapter 16 says, and heads that stay.
func TestSizes(t *testing.T) {
	for seed := range 1500 {
		r := rand.New(rand.NewSource(int64(seed)))
		p := anyProgram(r, kinds[seed%len(kinds)])
		ms := part(r, every(t, p))
		q := applied(t, "by chance", p, ms)
		if q.Globals != p.Globals || len(q.Funcs) != len(p.Funcs) {
			t.Fatalf("P17.2: seed %d: %d globals, %d functions, want %d and %d", seed, q.Globals, len(q.Funcs), p.Globals, len(p.Funcs))
		}
		all := code.Locations(p)
		for n, f := range p.Funcs {
			vars, instrs, locations := grown(p, n, ms)
			all += locations
			if g := q.Funcs[n]; g.Params != f.Params || g.Results != f.Results || g.Vars != vars || len(g.Code) != instrs {
				t.Fatalf("P17.2: seed %d: function %d has %d parameters, %d results, %d variables, %d instructions, want %d, %d, %d, %d", seed, n, g.Params, g.Results, g.Vars, len(g.Code), f.Params, f.Results, vars, instrs)
			}
		}
		if n := code.Locations(q); n != all {
			t.Fatalf("P17.2: seed %d: %d locations, want %d", seed, n, all)
		}
	}
}

// Without moves it is the program itself.
func TestNoMoves(t *testing.T) {
	for seed := range 1000 {
		r := rand.New(rand.NewSource(int64(seed)))
		p := anyProgram(r, kinds[seed%len(kinds)])
		want := told(t, p)
		for _, ms := range [][]api.Move{nil, {}, moves(0, 0, 9, 9)[:0]} {
			if got := told(t, applied(t, "no moves", p, ms)); got != want {
				t.Fatalf("P17.1: seed %d: without moves\n%s\nbecomes\n%s", seed, short(want), short(got))
			}
		}
	}
}
