package front_test

import (
	"math/rand"
	"reflect"
	"slices"
	"strings"
	"sync"
	"testing"

	"fugue/api"
	"fugue/front"
)

const mark = -77

func fill[T any](l []T, x T) {
	l = l[:cap(l)]
	for i := range l {
		l[i] = x
	}
}

// overwrite lays marks over one list of a program after the other, spare room too, and asks each time that all others stay.
func overwrite(t *testing.T, p api.Program) {
	t.Helper()
	lists := []*[]int{}
	for n := range p.Funcs {
		for at := range p.Funcs[n].Code {
			in := &p.Funcs[n].Code[at]
			lists = append(lists, &in.Args, &in.Rets)
		}
	}
	whole := copied(p)
	for _, l := range lists {
		was := slices.Clone(*l)
		fill(*l, mark)
		copy(*l, was)
		if !reflect.DeepEqual(copied(p), whole) {
			t.Fatal("R5: two lists of a program share memory")
		}
	}
	for n := range p.Funcs {
		was := slices.Clone(p.Funcs[n].Code)
		fill(p.Funcs[n].Code, api.Instr{Op: mark})
		for other := range p.Funcs {
			if other != n && !reflect.DeepEqual(copied(p).Funcs[other], whole.Funcs[other]) {
				t.Fatal("R5: the code of two functions shares memory")
			}
		}
		copy(p.Funcs[n].Code, was)
	}
	fill(p.Funcs, api.Func{Params: mark})
}

// copied: the program in new memory, without empty lists.
func copied(p api.Program) api.Program {
	out := api.Program{Globals: p.Globals}
	for _, f := range p.Funcs {
		code := f.Code
		f.Code = nil
		for _, in := range code {
			in.Args, in.Rets = append([]int(nil), in.Args...), append([]int(nil), in.Rets...)
			f.Code = append(f.Code, in)
		}
		out.Funcs = append(out.Funcs, f)
	}
	return out
}

func TestAnswersAreNewMemory(t *testing.T) {
	for seed := range 200 {
		r := rand.New(rand.NewSource(int64(seed)))
		of := anyTree(r)
		src := laidOut(tokensOfTree(of, nil))
		p := taken(t, "a source by chance", src)
		q := taken(t, "a source by chance", src)
		was := copied(q)
		if !reflect.DeepEqual(copied(p), was) {
			t.Fatalf("R6: Compile(%q) twice", src)
		}
		overwrite(t, p)
		if !reflect.DeepEqual(copied(q), was) || !reflect.DeepEqual(copied(taken(t, "again", src)), was) {
			t.Fatalf("R5: Compile(%q): two answers share memory", src)
		}
		args := anyArgs(r, of)
		given := append(slices.Clone(args), mark, mark)[:len(args)]
		a, _ := front.Run(src, 200, given...)
		b, _ := front.Run(src, 200, given...)
		if !slices.Equal(given, args) || !slices.Equal(given[:len(args)+2][len(args):], []int{mark, mark}) {
			t.Fatalf("R5: Run(%q) changes its arguments", src)
		}
		if !reflect.DeepEqual(a, b) {
			t.Fatalf("R6: Run(%q) twice: %+v, %+v", src, a, b)
		}
		prints, results := slices.Clone(b.Prints), slices.Clone(b.Results)
		fill(a.Prints, api.Value{Kind: mark})
		if !slices.Equal(a.Results, results) {
			t.Fatalf("R5: Run(%q): prints and results share memory", src)
		}
		fill(a.Results, api.Value{Kind: mark})
		fill(given, mark)
		if !slices.Equal(b.Prints, prints) || !slices.Equal(b.Results, results) {
			t.Fatalf("R5: Run(%q): two answers share memory", src)
		}
	}
}

// A text is not kept: what its bytes become later is not seen.
func TestTextsAreNotKept(t *testing.T) {
	for seed := range 100 {
		r := rand.New(rand.NewSource(int64(seed)))
		src := scattered(r, tokensOfTree(anyTree(r), r))
		text, _, _ := front.Print(src)
		want := strings.Clone(text)
		again, _, _ := front.Print(strings.Clone(src))
		if again != want {
			t.Fatalf("R6: Print(%q) twice", src)
		}
	}
}

// The calls know nothing of one another, at whatever time they are made.
func TestCallsAtOneTime(t *testing.T) {
	var all sync.WaitGroup
	for seed := range 8 {
		all.Go(func() {
			r := rand.New(rand.NewSource(int64(seed)))
			for range 60 {
				of := anyTree(r)
				plain := laidOut(tokensOfTree(of, nil))
				src := scattered(r, tokensOfTree(of, nil))
				args := anyArgs(r, of)
				want := meant(of, 150, args)
				trace, e := front.Run(src, 150, args...)
				text, _, _ := front.Print(src)
				_, f, _ := front.Compile(src)
				if e != api.OK || f != api.OK || text != plain || !alike(trace, want) {
					t.Errorf("R6: beside other calls: %q", src)
				}
			}
		})
	}
	all.Wait()
}

// Errors change nothing of what is asked behind them.
func TestBehindErrors(t *testing.T) {
	right := "global g int; fn main(n int) int { g = g + n; print g; return g; }"
	want, _ := front.Run(right, 100, 4)
	code := copied(taken(t, "a source", right))
	for _, src := range []string{"", "$", "fn", "fn main() { x = 1; }", "fn main(p *int) { }", "fn main() { print null int; }", "global g int; fn main(g int) { }"} {
		front.Compile(src)
		front.Run(src, 100, 1)
		front.Print(src)
		front.Run(right, 100)
		if trace, e := front.Run(right, 100, 4); e != api.OK || !alike(trace, want) {
			t.Errorf("R6: behind %q: %+v, %d", src, trace, e)
		}
		if !reflect.DeepEqual(copied(taken(t, "a source", right)), code) {
			t.Errorf("R6: behind %q: another program", src)
		}
	}
}
