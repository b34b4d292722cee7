package inline_test

import (
	"math/rand"
	"slices"
	"strings"
	"testing"

	"fugue/api"
	"fugue/run"
	"fugue/whole"
)

var null = api.Value{}

func num(n int) api.Value { return api.Value{Kind: api.Num, N: n} }

// ran: all sites on the heap.
func ran(t *testing.T, p api.Program, fuel int, args []api.Value) api.Trace {
	t.Helper()
	tr, e := run.Run(p, run.AllHeap(p), fuel, args...)
	if e != api.OK {
		t.Fatalf("no run: error %d", e)
	}
	return tr
}

// follows: W6 in one direction: what p does within n steps, q does within so many as the chapter says.
func follows(t *testing.T, what string, p, q api.Program, n int, args []api.Value) {
	t.Helper()
	one, other := ran(t, p, n, args), ran(t, q, 300*n+300, args)
	if one.End == api.Fuel {
		if len(other.Prints) < len(one.Prints) || !slices.Equal(other.Prints[:len(one.Prints)], one.Prints) {
			t.Fatalf("W6: %s, %v: within %d steps there are %d prints, not a beginning of the other one's %d (end %d)", what, args, n, len(one.Prints), len(other.Prints), other.End)
		}
	} else if other.End != one.End || !slices.Equal(other.Prints, one.Prints) || !slices.Equal(other.Results, one.Results) {
		t.Fatalf("W6: %s, %v: within %d steps it ends by %d with %d prints and the results %v, the other one by %d with %d prints and the results %v", what, args, n, one.End, len(one.Prints), one.Results, other.End, len(other.Prints), other.Results)
	}
}

// arguments: some lists that function 0 may be given.
func arguments(p api.Program) [][]api.Value {
	var l [][]api.Value
	for _, a := range [][]api.Value{{null}, {num(1)}, {num(0), null, num(3), num(-7)}} {
		args := make([]api.Value, p.Funcs[0].Params)
		for i := range args {
			args[i] = a[i%len(a)]
		}
		l = append(l, args)
		if len(args) == 0 {
			return l
		}
	}
	return l
}

// runsAs: W6 of two programs, in both directions, for several numbers of steps.
func runsAs(t *testing.T, what string, p, q api.Program) {
	t.Helper()
	for _, args := range arguments(p) {
		for _, n := range []int{0, 1, 2, 5, 30, 100} {
			follows(t, what, p, q, n, args)
			follows(t, what+", the new one first", q, p, n, args)
		}
	}
}

func runsAlike(t *testing.T, what string, p api.Program, ms []api.Move) {
	t.Helper()
	runsAs(t, what, p, applied(t, what, p, ms))
}

// runsSo: both programs print so, give these results and end so.
func runsSo(t *testing.T, what string, p api.Program, ms []api.Move, end int, results, prints []api.Value, args ...api.Value) {
	t.Helper()
	for _, q := range []api.Program{p, applied(t, what, p, ms)} {
		if tr := ran(t, q, 2000, args); tr.End != end || !slices.Equal(tr.Prints, prints) || !slices.Equal(tr.Results, results) {
			t.Errorf("W6: %s: %+v, want the end %d, the results %v, the prints %v", what, tr, end, results, prints)
		}
	}
	runsAlike(t, what, p, ms)
}

func nums(l ...int) []api.Value {
	var v []api.Value
	for _, n := range l {
		v = append(v, num(n))
	}
	return v
}

// The variables of a move begin anew each time that it is come to.
func TestMoveInALoop(t *testing.T) {
	p := of(t, fn(1, 1, 4, "v1 = int 1;v2 = int 3;v0 = v0 + v1;v3 = f1(v0);v3 = v0 < v2;if v3 jump 2;return v0"),
		fn(1, 1, 3, "print v2;v2 = v0 + v0;print v2;v0 = v1;v1 = v2;print v0;return v1"))
	want := []api.Value{null, num(2), null, null, num(4), null, null, num(6), null}
	runsSo(t, "a move in a loop", p, moves(0, 3), api.Done, nums(3), want, num(0))
	// an If over what was set the time before
	p = of(t, fn(0, 0, 3, "v0 = int -2;v2 = int 1;f1();v0 = v0 + v2;if v0 jump 2;return"), fn(0, 0, 1, "if v0 jump 3;v0 = int 8;print v0;return"))
	runsSo(t, "a move in a loop, with an If", p, moves(0, 2), api.Done, nil, nums(8, 8))
	// a New makes a new cell each time
	p = of(t, fn(0, 1, 4, "v0 = f1(v0);v2 = int 1;v1 = v1 + v2;v2 = int 5;v3 = v1 < v2;if v3 jump 0;v1 = v0.0;v1 = v1.0;v2 = v1.0;v0 = v1 == v2;print v2;return v0"), fn(1, 1, 2, "v1 = new 1;v1.0 = v0;return v1"))
	runsSo(t, "a New in a loop", p, moves(0, 0), api.Done, nums(0), []api.Value{{Kind: api.Ptr}})
}

// Rets and Args that share variables: all Args are read first, and of one variable the last result wins.
func TestRetsThatAreArgs(t *testing.T) {
	for _, c := range []struct {
		call string
		a, b int
	}{
		{"v0, v1 = f1(v0, v1)", 2, 1}, {"v1, v0 = f1(v0, v1)", 1, 2}, {"v0, v1 = f1(v1, v0)", 1, 2}, {"v0, v1 = f1(v0, v0)", 1, 1},
		{"v0, v0 = f1(v0, v1)", 1, 2}, {"v1, v1 = f1(v1, v0)", 1, 2}, {"v1, v1 = f1(v0, v1)", 1, 1}, {"v0, v0 = f1(v1, v0)", 2, 2},
	} {
		p := of(t, fn(0, 2, 2, "v0 = int 1;v1 = int 2;"+c.call+";return v0, v1"), fn(2, 2, 2, "return v1, v0"))
		runsSo(t, c.call, p, moves(0, 2), api.Done, nums(c.a, c.b), nil)
	}
}

// What a callee follows may lead to the caller's variables, those that its results go to among them.
func TestCallersWithAddr(t *testing.T) {
	p := of(t, fn(0, 3, 4, "v0 = int 3;v1 = &v0;v3 = &v2;v0, v2 = f1(v1, v3);v1 = v1 == v3;return v0, v1, v2"),
		fn(2, 2, 4, "v2 = v0.0;v1.0 = v2;v3 = v1.0;v0.0 = v1;v2 = v2 + v3;return v2, v3"))
	runsSo(t, "a caller with an Addr", p, moves(0, 3), api.Done, nums(6, 0, 3), nil)
	p = of(t, fn(0, 2, 2, "v0 = &v1;v1, v0 = f1(v0);return v0, v1"), fn(1, 2, 3, "v1 = int 4;v0.0 = v1;v2 = v0.0;return v1, v2"))
	runsSo(t, "the same variable", p, moves(0, 0+1), api.Done, nums(4, 4), nil)
}

// Runs that end within a body or behind it, by Nils and by Fields; what was printed by then is the same.
func TestRunsThatGoAstray(t *testing.T) {
	for _, c := range []struct {
		what, callee string
		end          int
		prints       []api.Value
	}{
		{"a Load of nil", fn(1, 1, 2, "print v0;v0 = v1.0;print v0;return v0"), api.Nils, nums(5)},
		{"a Load of an int", fn(1, 1, 2, "print v0;v1 = v0.0;return v0"), api.Nils, nums(5)},
		{"a Store to nil", fn(1, 1, 2, "print v0;v1.0 = v0;return v0"), api.Nils, nums(5)},
		{"a Load of a field that is not there", fn(1, 1, 2, "v1 = new 2;v0 = v1.2;return v0"), api.Fields, nil},
		{"a Store to a field that is not there", fn(1, 1, 2, "v1 = new 7;print v0;v1.7 = v0;return v0"), api.Fields, nums(5)},
		{"behind a body", fn(1, 1, 1, "print v0;return v0"), api.Nils, nums(5, 5)},
	} {
		p := of(t, fn(0, 0, 2, "v0 = int 5;v1 = f1(v0);print v1;v0 = v1.0;print v0;return"), c.callee)
		runsSo(t, c.what, p, moves(0, 1), c.end, nil, c.prints)
	}
}

// Runs that do not end: in a body, around one, and in calls that are left.
func TestRunsWithoutEnd(t *testing.T) {
	for _, c := range []struct{ what, caller, callee string }{
		{"in a body", "v0 = int 1;f1(v0);print v0;return", fn(1, 0, 1, "print v0;v0 = v0 + v0;jump 0")},
		{"in a body, with no print", "print v0;f1(v0);print v0;return", fn(1, 0, 1, "jump 0")},
		{"around a body", "f1(v0);v1 = int 1;v0 = v0 + v1;jump 0", fn(1, 0, 1, "print v0;return")},
		{"around an empty body", "f1(v0);print v0;jump 0", fn(1, 0, 1, "return")},
		{"in calls", "f1(v0);return", fn(1, 0, 2, "v1 = int 1;v0 = v0 + v1;print v0;f1(v0);return")},
	} {
		p := of(t, fn(0, 0, 2, c.caller), c.callee)
		ms := every(t, p)
		runsAlike(t, c.what, p, ms)
		if tr := ran(t, applied(t, c.what, p, ms), 5000, nil); len(ms) != 1 || tr.End != api.Fuel || tr.Steps != 5000 {
			t.Errorf("W6: %s: %d moves, end %d behind %d steps", c.what, len(ms), tr.End, tr.Steps)
		}
	}
}

// The steps at their most: a Call and a Return with as many variables and results as may be, in a loop; and bodies of nothing, by which the old run is the longer one.
func TestSteps(t *testing.T) {
	loop := "v1 = int 1;v0 = v0 + v1;%;v2 = int 20;v1 = v0 < v2;if v1 jump 0;print v0;return"
	p := of(t, fn(0, 0, 5, strings.ReplaceAll(loop, "%", "v1, v2, v3, v4 = f1(v0, v0, v0, v0, v0, v0, v0, v0)")), fn(8, 4, 250, "return v1, v2, v3, v4"))
	q := applied(t, "much room", p, moves(0, 2))
	if one, other := ran(t, p, 1000, nil), ran(t, q, 10000, nil); one.Steps != 20*7+2 || other.Steps != 20*(5+250+5)+2 {
		t.Errorf("W6: %d steps, and %d behind the move", one.Steps, other.Steps)
	}
	runsAs(t, "much room", p, q)
	for n := range 150 {
		follows(t, "much room", p, q, n, nil)
	}
	p = of(t, fn(0, 0, 3, strings.ReplaceAll(loop, "%", "f1();f1()")), fn(0, 0, 0, "return"))
	q = applied(t, "no room", p, moves(0, 2, 0, 3))
	if one, other := ran(t, p, 1000, nil), ran(t, q, 1000, nil); one.Steps != 20*9+2 || other.Steps != 20*7+2 {
		t.Errorf("W6: %d steps, and %d behind the moves", one.Steps, other.Steps)
	}
	runsAs(t, "no room", p, q)
}

// Runs of programs by chance and of what follows from their plans, from the one to the other and back.
func TestRunsByChance(t *testing.T) {
	seen := map[int]int{}
	printed := 0
	for seed := range 1500 {
		r := rand.New(rand.NewSource(int64(seed)))
		p := anyProgram(r, kind{6, 20, 6, 6, true})
		ms := made(t, p, 5+r.Intn(60), 20+r.Intn(300))
		if r.Intn(2) == 0 {
			ms = part(r, ms)
		}
		q := applied(t, "by chance", p, ms)
		args := arguments(p)[r.Intn(len(arguments(p)))]
		far := ran(t, p, 200, args)
		if len(ms) > 0 {
			seen[far.End]++
		}
		if len(ms) > 0 && len(far.Prints) > 3 {
			printed++
		}
		most := 200
		if far.End == api.Fuel { // long ones take long
			most = 20
		}
		for _, n := range []int{r.Intn(10), r.Intn(most), most} {
			follows(t, "by chance", p, q, n, args)
			follows(t, "by chance, the new one first", q, p, n, args)
		}
	}
	if seen[api.Done] < 200 || seen[api.Fuel] < 100 || seen[api.Nils] < 100 || seen[api.Fields] < 30 || printed < 300 {
		t.Errorf("the runs are too much alike: by end %v, %d with several prints", seen, printed)
	}
}

// What was inlined again and again runs alike too.
func TestRunsByChanceAgain(t *testing.T) {
	for seed := range 400 {
		r := rand.New(rand.NewSource(int64(seed)))
		p := anyProgram(r, kind{6, 16, 5, 9, true})
		q := p
		for range 3 {
			q = applied(t, "again", q, made(t, q, 100, 300))
		}
		for _, args := range arguments(p) {
			if one := ran(t, p, 60, args); one.End != api.Fuel {
				if other := ran(t, q, 100000, args); other.End != one.End || !slices.Equal(other.Prints, one.Prints) || !slices.Equal(other.Results, one.Results) {
					t.Fatalf("W6: seed %d: inlined three times it ends by %d, not by %d", seed, other.End, one.End)
				}
			}
		}
	}
}

// A site that is on the heap may be in the frame in the new program: its cells are made in another frame then. What the analysis says of the new program is sound.
func TestAnalysisOfTheNewOne(t *testing.T) {
	p := of(t, fn(0, 0, 2, "v0 = f1();v1 = v0.0;print v1;return"), fn(0, 1, 1, "v0 = new 1;return v0"))
	q := becomes(t, "a New that is given back", p, moves(0, 0), fn(0, 0, 3, "v2 = null;v2 = new 1;v0 = v2;jump 4;v1 = v0.0;print v1;return"))
	old, _ := whole.Solve(p)
	now, e := whole.Solve(q)
	if e != api.OK || !old.Code[1][0] || now.Code[0][1] || !now.Code[1][0] {
		t.Errorf("the New is on the heap: %v in the callee, %v in the caller", old.Code[1][0], now.Code[0][1])
	}
	for seed := range 300 {
		r := rand.New(rand.NewSource(int64(seed)))
		p := anyProgram(r, kind{6, 20, 6, 4, true})
		q := applied(t, "by chance", p, every(t, p))
		now, e := whole.Solve(q)
		if e != api.OK {
			t.Fatalf("P17.1: seed %d: error %d", seed, e)
		}
		for _, args := range arguments(q) {
			one, _ := run.Run(q, now, 500, args...)
			if other := ran(t, q, 500, args); one.End != other.End || one.Steps != other.Steps || !slices.Equal(one.Prints, other.Prints) || !slices.Equal(one.Results, other.Results) {
				t.Fatalf("W3: seed %d: in its frames the new program's run ends by %d behind %d steps, on the heap by %d behind %d", seed, one.End, one.Steps, other.End, other.Steps)
			}
		}
	}
}
