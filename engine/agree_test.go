package engine_test

import (
	"fmt"
	"math/rand"
	"slices"
	"testing"

	"fugue/api"
	"fugue/crew"
	"fugue/engine"
	"fugue/sums"
	"fugue/whole"
)

// plainBits: eight a byte, the first the lowest.
func plainBits(l []bool) []byte {
	var b []byte
	for i, is := range l {
		if i%8 == 0 {
			b = append(b, 0)
		}
		if is {
			b[i/8] += 1 << (i % 8)
		}
	}
	return b
}

// plainBytes: a result as the document lays it into bytes.
func plainBytes(p api.Program, r api.Result) []byte {
	b := []byte{0x66, 0x67, 1, byte(len(p.Funcs)), byte(len(p.Funcs) >> 8)}
	for n, f := range p.Funcs {
		var news []bool
		for at, x := range f.Code {
			if x.Op == api.New {
				news = append(news, r.Code[n][at])
			}
		}
		b = append(b, byte(f.Params), byte(f.Results), byte(f.Vars), byte(len(news)), byte(len(news)>>8))
		for i, d := range r.Sums[n].Heap {
			b = append(b, byte(d))
			for _, d := range r.Sums[n].Result[i] {
				b = append(b, byte(d))
			}
		}
		b = append(append(b, plainBits(r.Vars[n])...), plainBits(news)...)
	}
	return b
}

// agrees: Steps and Bytes are what the layers below say, step by step; the bytes are the least solution's, and it is read from them.
func agrees(t *testing.T, p api.Program, workers int, script []int) api.Run {
	t.Helper()
	what := fmt.Sprintf("%v, %d workers, script %v", p, workers, script)
	b := encoded(t, p)
	l, events, e := crew.Scripted(p, workers, script...)
	placed, f := whole.Place(p, l)
	want, g := sums.EncodeResult(p, placed)
	if e != api.OK || f != api.OK || g != api.OK {
		t.Fatalf("no program: errors %d, %d, %d", e, f, g)
	}
	got := engine.Analyze(b, workers, script...)
	if got.Err != api.OK || got.Offset != 0 || got.Steps != len(events) || !slices.Equal(got.Bytes, want) {
		t.Fatalf("P15.1: %s: %+v, want %d steps, bytes\n% x", what, got, len(events), want)
	}
	if free, e, at := engine.Free(b, workers); e != api.OK || at != 0 || !slices.Equal(free, want) {
		t.Fatalf("P15.2: %s: free: error %d at %d, bytes\n% x\nwant\n% x", what, e, at, free, want)
	}
	r := least(t, p)
	if !slices.Equal(got.Bytes, plainBytes(p, r)) {
		t.Fatalf("P15.3: %s: bytes\n% x\nwant the least solution's\n% x", what, got.Bytes, plainBytes(p, r))
	}
	if back, e := sums.DecodeResult(p, got.Bytes); e != api.OK || !alike(back, r) {
		t.Fatalf("P15.3: %s: error %d, the bytes say %+v, want %+v", what, e, back, r)
	}
	return got
}

func TestAnyPrograms(t *testing.T) {
	heap, frame, steps := 0, 0, map[int]int{}
	for seed := range 2500 {
		r := rand.New(rand.NewSource(int64(seed)))
		p := anyProgram(r, 9, 12)
		workers := crews[r.Intn(len(crews))]
		if r.Intn(3) > 0 {
			workers = 1 + r.Intn(4)
		}
		steps[agrees(t, p, workers, anyScript(r, 80)).Steps]++
		for _, is := range slices.Concat(least(t, p).Vars...) {
			if is {
				heap++
			} else {
				frame++
			}
		}
	}
	if heap < 2000 || frame < 5000 || len(steps) < 100 {
		t.Errorf("the programs are too much alike: %d variables on the heap, %d in the frame, %d numbers of steps", heap, frame, len(steps))
	}
}

func TestShapes(t *testing.T) {
	r := rand.New(rand.NewSource(1))
	for _, p := range shapes() {
		for _, workers := range []int{1, 2, 3, 64} {
			agrees(t, p, workers, nil)
			agrees(t, p, workers, anyScript(r, 1500))
		}
	}
}

// Neither the workers nor the script are seen in the bytes; in the steps they are.
func TestWorkersDontMatter(t *testing.T) {
	programs := append(shapes(), of(t, fn(0, 0, 0, "return")))
	for seed := range 12 {
		programs = append(programs, anyProgram(rand.New(rand.NewSource(int64(seed))), 12, 9))
	}
	steps := map[int]int{}
	for i, p := range programs {
		b := encoded(t, p)
		want := engine.Analyze(b, 1)
		if want.Err != api.OK {
			t.Fatalf("P15.1: the program %d: error %d", i, want.Err)
		}
		for workers := 1; workers <= api.MaxWorkers; workers++ {
			script := scripts()[(workers+i)%len(scripts())]
			if workers < 4 || workers == 64 {
				for _, s := range scripts() {
					analyzed(t, "any script", b, workers, s, want.Bytes)
				}
			}
			analyzed(t, "any workers", b, workers, script, want.Bytes)
			steps[engine.Analyze(b, workers, script...).Steps]++
		}
		if r := engine.Analyze(b, 1, edges...); r.Steps != want.Steps {
			t.Errorf("P15.1: the program %d, one worker: %d steps under a script, else %d", i, r.Steps, want.Steps)
		}
	}
	if len(steps) < 200 {
		t.Errorf("the runs are too much alike: %d numbers of steps", len(steps))
	}
}

// allScripts: of so many numbers below a bound; do is given each.
func allScripts(length, below int, do func(script []int)) {
	script := make([]int, length)
	for {
		do(script)
		i := 0
		for ; i < length && script[i] == below-1; i++ {
			script[i] = 0
		}
		if i == length {
			return
		}
		script[i]++
	}
}

// All ways in which two workers can come to a solution of a program with a ring and two that wait.
func TestAllScriptsOfTwoWorkers(t *testing.T) {
	p := of(t, fn(1, 1, 2, "v1 = f1(v0);return v1"), fn(1, 1, 2, "v1 = f0(v0);g0 = v0;return v1"), fn(1, 1, 2, "v1 = &v0;return v1"), fn(1, 1, 2, "v1 = f2(v0);v0 = f0(v1);return v1"))
	b, want := encoded(t, p), plainBytes(p, least(t, p))
	allScripts(11, 2, func(script []int) {
		if r := engine.Analyze(b, 2, script...); r.Err != api.OK || !slices.Equal(r.Bytes, want) {
			t.Fatalf("P15.3: script %v: error %d, bytes % x, want % x", script, r.Err, r.Bytes, want)
		}
	})
}

// The bytes are what every order of solving comes to, and no solution says less.
func TestLeastOfAllSolutions(t *testing.T) {
	for seed := range 300 {
		r := rand.New(rand.NewSource(int64(seed)))
		p := anyProgram(r, 5, 8)
		got := engine.Analyze(encoded(t, p), 1+r.Intn(3), anyScript(r, 30)...)
		any, e := whole.Anyhow(p, anyScript(r, 30)...)
		if e != api.OK || !slices.Equal(got.Bytes, plainBytes(p, any)) {
			t.Fatalf("W2: %v: bytes % x, in another order % x", p, got.Bytes, plainBytes(p, any))
		}
		back, _ := sums.DecodeResult(p, got.Bytes)
		if is, e := whole.Is(p, back.Sums); e != api.OK || !is {
			t.Fatalf("W2: %v: no solution: %v", p, back.Sums)
		}
		raised := slices.Clone(back.Sums)
		for f := range raised {
			if raised[f], e = raiseOne(r, p.Funcs[f], raised[f]); e != api.OK {
				t.Fatal("no summary")
			}
		}
		if is, _ := whole.Is(p, raised); is && !slices.EqualFunc(raised, back.Sums, alikeSum) && !slices.EqualFunc(raised, back.Sums, sums.Above) {
			t.Fatalf("W2: %v: %v is a solution that is not above %v", p, raised, back.Sums)
		}
	}
}

// raiseOne: the summary with another number somewhere.
func raiseOne(r *rand.Rand, f api.Func, s api.Summary) (api.Summary, api.Errno) {
	c := api.Summary{Heap: slices.Clone(s.Heap)}
	for _, l := range s.Result {
		c.Result = append(c.Result, slices.Clone(l))
	}
	if f.Params > 0 && r.Intn(2) == 0 {
		d := []int{0, 1, 2, 3, api.None}[r.Intn(5)]
		i := r.Intn(f.Params)
		if j := r.Intn(f.Results + 1); j < f.Results {
			c.Result[i][j] = d
		} else {
			c.Heap[i] = d
		}
	}
	return c, sums.Check(f, c)
}
