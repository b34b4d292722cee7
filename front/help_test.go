package front_test

import (
	"slices"
	"strconv"
	"strings"
	"testing"

	"fugue/api"
	"fugue/code"
	"fugue/front"
	"fugue/run"
)

// onLines: each token on a line of its own, so that its line tells which one it is.
func onLines(tokens []string) string {
	if len(tokens) == 0 {
		return ""
	}
	return strings.Join(tokens, "\n") + "\n"
}

// zero: is it no program?
func zero(p api.Program) bool { return p.Globals == 0 && len(p.Funcs) == 0 }

// refusedAt: Compile tells that error at that line, Run tells it, and Print just if it is ErrSource.
func refusedAt(t *testing.T, src string, want api.Errno, line int) {
	t.Helper()
	if p, e, at := front.Compile(src); e != want || at != line || !zero(p) {
		t.Fatalf("P25.1: Compile(%q): %d at %d, want %d at %d", src, e, at, want, line)
	}
	if trace, e := front.Run(src, 1000); e != want || !alike(trace, api.Trace{}) {
		t.Fatalf("P25.2: Run(%q): %+v, %d, want %d", src, trace, e, want)
	}
	text, e, at := front.Print(src)
	if want == api.ErrSource && (e != want || at != line || text != "") {
		t.Fatalf("P25.4: Print(%q): %q, %d at %d, want %d at %d", src, text, e, at, want, line)
	}
	if want != api.ErrSource && (e != api.OK || at != 0) {
		t.Fatalf("P25.4: Print(%q): %d at %d", src, e, at)
	}
}

// refused: the token between two @ is the one at which the error is told; behind one @ alone it is the end.
func refused(t *testing.T, what string, want api.Errno, marked string) {
	t.Helper()
	if many := strings.Count(marked, "@"); many != 2 && (many != 1 || !strings.HasSuffix(marked, "@")) {
		t.Fatalf("%s: %q is not marked", what, marked)
	}
	src := strings.ReplaceAll(marked, "@", "\n")
	if _, e, line := front.Compile(src); e != want || line != 2 {
		t.Errorf("P25.1: %s: %q: %d at %d, want %d at 2", what, src, e, line, want)
		return
	}
	refusedAt(t, src, want, 2)
	refusedAt(t, strings.ReplaceAll(marked, "@", " "), want, 1)
}

// taken: it compiles to a right program.
func taken(t *testing.T, what, src string) api.Program {
	t.Helper()
	p, e, line := front.Compile(src)
	if e != api.OK || line != 0 || !right(p) {
		t.Errorf("P25.1: %s: %q: %d at %d", what, src, e, line)
	}
	return p
}

func nums(l ...int) []api.Value {
	var out []api.Value
	for _, n := range l {
		out = append(out, api.Value{Kind: api.Num, N: n})
	}
	return out
}

// values: of words: ints, ptr, nil.
func values(words string) []api.Value {
	var out []api.Value
	for _, w := range strings.Fields(words) {
		switch w {
		case "nil":
			out = append(out, api.Value{})
		case "ptr":
			out = append(out, api.Value{Kind: api.Ptr})
		default:
			out = append(out, api.Value{Kind: api.Num, N: numberOf(w)})
		}
	}
	return out
}

func alike(a, b api.Trace) bool {
	return slices.Equal(a.Prints, b.Prints) && slices.Equal(a.Results, b.Results) && a.End == b.End && a.Steps == b.Steps
}

func begins(with, l []api.Value) bool {
	return len(with) <= len(l) && slices.Equal(with, l[:len(with)])
}

// onHeap: the run of a program with all cells on the heap.
func onHeap(t *testing.T, p api.Program, fuel int, args []int) api.Trace {
	t.Helper()
	trace, e := run.Run(p, run.AllHeap(p), fuel, nums(args...)...)
	if e != api.OK {
		t.Fatalf("W13: no right program: %d", e)
	}
	return trace
}

// keeps: P25.3 with the fuel n, both ways.
func keeps(t *testing.T, src string, p api.Program, n int, args []int) {
	t.Helper()
	means, e := front.Run(src, n, args...)
	if e != api.OK {
		t.Fatalf("P25.2: %q: %d", src, e)
	}
	does := onHeap(t, p, 40*n+40, args)
	if means.End != api.Fuel && (does.End != means.End || !slices.Equal(does.Prints, means.Prints) || !slices.Equal(does.Results, means.Results)) {
		t.Fatalf("P25.3: %q with %d: %+v, but its program: %+v", src, n, means, does)
	}
	if !begins(means.Prints, does.Prints) {
		t.Fatalf("P25.3: %q with %d: prints %v, but its program %v", src, n, means.Prints, does.Prints)
	}
	does = onHeap(t, p, n, args)
	more := 1000*n + 1000
	if n > 30 {
		more = 20*n + 20 // asks for more than the chapter, in less time
	}
	means, _ = front.Run(src, more, args...)
	if !begins(does.Prints, means.Prints) {
		t.Fatalf("P25.3: %q: its program prints with %d: %v, it with %d: %v", src, n, does.Prints, more, means.Prints)
	}
	if does.End != api.Fuel && does.End != api.Done && does.End != api.Nils {
		t.Fatalf("W13: %q: ends by %d", src, does.End)
	}
}

func right(p api.Program) bool { return code.Check(p) == api.OK }

func numberOf(word string) int {
	n, err := strconv.Atoi(word)
	if err != nil {
		panic(err)
	}
	return n
}
