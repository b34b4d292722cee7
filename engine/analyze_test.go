package engine_test

import (
	"slices"
	"testing"

	"fugue/api"
	"fugue/engine"
)

// leastBytes: the least program's.
const leastBytes = "66 75 67 75 65 01, 00, 01 00, 00 00 00 01 00, 0f 00"

// opening: of the result of so few functions.
func opening(funcs byte) []byte { return []byte{0x66, 0x67, 1, funcs, 0} }

// tells: the bytes of the result are these behind the opening, whoever finds them.
func tells(t *testing.T, what string, p api.Program, want string) {
	t.Helper()
	b, all := encoded(t, p), append(opening(byte(len(p.Funcs))), bytesOf(t, want)...)
	for _, workers := range []int{1, 2, 3, 64} {
		for _, script := range scripts() {
			analyzed(t, what, b, workers, script, all)
		}
	}
}

func TestExamplesOfTheChapter(t *testing.T) {
	b := bytesOf(t, "66 75 67 75 65 01, 00, 01 00, 00 01 02 02 00, 05 01 00, 0f 01 01")
	want := bytesOf(t, "66 67 01, 01 00, 00 01 02 00 00, 01")
	for workers := 1; workers <= 64; workers++ {
		analyzed(t, "v1 = &v0, return v1", b, workers, nil, want)
		refused(t, "without the last byte", b[:len(b)-1], workers, api.ErrShort, len(b)-1)
		refused(t, "with a byte behind", append(slices.Clone(b), 0), workers, api.ErrTrail, len(b))
	}
	for _, workers := range []int{0, 65} {
		for _, l := range [][]byte{nil, b, b[:len(b)-1], append(slices.Clone(b), 0)} {
			refused(t, "whatever the bytes", l, workers, api.ErrWorkers, 0)
		}
	}
}

// The examples of the whole, as bytes: by function Params, Results, Vars, how many News, the summary, the variables, the News.
func TestExamplesOfTheWhole(t *testing.T) {
	f0 := fn(0, 0, 0, "return")
	head := "00 00 00 00 00,"
	tells(t, "1: the least program", of(t, f0), head)
	tells(t, "2: a variable's address comes back", of(t, fn(0, 0, 2, "v0 = f1();v1 = v0.0;return"), fn(0, 1, 2, "v0 = int 5;v1 = &v0;return v1")), "00 00 02 00 00, 00, 00 01 02 00 00, 01")
	tells(t, "3: a parameter comes back", of(t, f0, fn(1, 1, 1, "return v0")), head+"01 01 01 00 00, 09 00, 00")
	tells(t, "3: what it points to comes back", of(t, f0, fn(1, 1, 2, "v1 = v0.0;return v1")), head+"01 01 02 00 00, 09 01, 00")
	tells(t, "3: into a global, and back", of(t, f0, fn(1, 1, 1, "g0 = v0;return v0")), head+"01 01 01 00 00, 00 00, 00")
	tells(t, "3: a parameter's address", of(t, f0, fn(1, 1, 2, "v1 = &v0;return v1")), head+"01 01 02 00 00, 00 00, 01")
	tells(t, "4: the second rule", of(t, f0, fn(0, 1, 3, "v0 = new 1;v1 = v0;v2 = &v1;return v2")), head+"00 01 03 01 00, 02, 01")
	tells(t, "5: a Store", of(t, f0, fn(1, 0, 2, "v1 = new 1;v0.0 = v1;return")), head+"01 00 02 01 00, 09, 00, 01")
	tells(t, "6: numbers end at 3", of(t, f0, fn(1, 0, 6, "v1 = v0.0;v2 = v1.0;v3 = v2.0;v4 = v3.0;v5 = v4.0;g0 = v5;return")), head+"01 00 06 00 00, 03, 00")
	tells(t, "7: a ring", of(t, f0, fn(1, 1, 2, "v1 = v0.0;v1 = f1(v1);return v1")), head+"01 01 02 00 00, 09 01, 00")
	tells(t, "7: one that hands on to itself", of(t, f0, fn(1, 0, 1, "f1(v0);return")), head+"01 00 01 00 00, 09, 00")
}

// Results with more in them: bits in several bytes, several parameters and results, Code that is no New between the News.
func TestResultsWithMore(t *testing.T) {
	tells(t, "nine variables", of(t, fn(0, 0, 10, "v0 = &v8;g0 = v0;v1 = &v2;g1 = v1;v3 = &v4;return")), "00 00 0a 00 00, 04 01")
	tells(t, "nine News", of(t, fn(0, 1, 1, "v0 = new 1;g0 = v0;v0 = int 5;v0 = new 1;v0 = new 1;v0 = new 1;v0 = new 1;v0 = new 1;v0 = new 1;v0 = new 1;v0 = new 1;return v0")), "00 01 01 09 00, 00, ff 01")
	tells(t, "of three News the first and the third", of(t, fn(0, 1, 3, "v0 = new 1;g1 = v0;jump 3;v1 = new 8;v2 = new 2;return v2")), "00 01 03 03 00, 00, 05")
	tells(t, "two parameters, two results", of(t, fn(2, 2, 4, "v2 = v1.3;v3 = v2.0;g0 = v3;return v2, v0")), "02 02 04 00 00, 09 09 00 02 01 09, 00")
	tells(t, "what a callee does with an address", of(t, fn(0, 0, 4, "v0 = &v1;v2 = &v3;v2 = f1(v0, v2);return"), fn(2, 1, 2, "g0 = v0;return v1")), "00 00 04 00 00, 02, 02 01 02 00 00, 00 09 09 00, 00")
	tells(t, "a ring of two", of(t, fn(1, 1, 3, "v1 = v0.0;v2 = f1(v1);return v2"), fn(1, 1, 2, "if v0 jump 3;v1 = f0(v0);return v1;v1 = &v0;g0 = v1;return v0")), "01 01 03 00 00, 01 01, 00, 01 01 02 00 00, 00 00, 01")
	tells(t, "a ring that gives nothing back", of(t, fn(1, 1, 2, "v1 = f0(v0);return v1")), "01 01 02 00 00, 09 09, 00")
}

func TestSteps(t *testing.T) {
	one := bytesOf(t, leastBytes)
	two := encoded(t, of(t, fn(0, 0, 0, "return"), fn(0, 0, 0, "return")))
	chain := encoded(t, of(t, fn(0, 0, 0, "f1();return"), fn(0, 0, 0, "return")))
	changes := encoded(t, of(t, fn(1, 1, 1, "return v0")))
	for _, x := range []struct {
		what    string
		b       []byte
		workers int
		script  []int
		want    int
	}{
		{"Pop, Pass, Publish, Finish, Exit", one, 1, nil, 5},
		{"whatever the script of one worker", one, 1, []int{3, -1, 7}, 5},
		{"a Pass that changes, and a quiet one", changes, 1, nil, 6},
		{"two Exits", one, 2, nil, 6},
		{"64 Exits", one, 64, nil, 68},
		{"an Idle of the last worker ahead of it", one, 64, []int{63}, 69},
		{"an Idle and a Steal", one, 2, []int{1, 1}, 7},
		{"Idle, Steals that find nothing, Idle, Steal", one, 3, []int{1, 1, 1, 2, 2}, 9},
		{"one after the other", two, 1, nil, 9},
		{"both at one time", two, 2, []int{0, 1}, 10},
		{"one does both", two, 2, times(9, 0), 11},
		{"a Lower, a Look", chain, 1, nil, 11},
		{"a Steal, a Lower, a Look", chain, 2, []int{1, 1, 1}, 14},
	} {
		r := engine.Analyze(x.b, x.workers, x.script...)
		if r.Err != api.OK || r.Offset != 0 || r.Steps != x.want {
			t.Errorf("P15.1: %s: %d workers, script %v: error %d at %d, %d steps, want %d", x.what, x.workers, x.script, r.Err, r.Offset, r.Steps, x.want)
		}
	}
}
