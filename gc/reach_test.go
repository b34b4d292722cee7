package gc_test

import (
	"fmt"
	"strings"
	"testing"

	"fugue/api"
)

// Each of the eight fields leads on, and a field that is overwritten does no more.
func TestReachThroughEachField(t *testing.T) {
	lines := "v0 = new 8;"
	for field := range 8 {
		lines += fmt.Sprintf("v1 = new 1;v0.%d = v1;", field)
	}
	lines += "v1 = null;"
	for field := range 8 {
		lines += fmt.Sprintf("v0.%d = v1;", field)
	}
	p := of(t, fn(0, 0, 2, lines+"return"))
	for _, h := range everywhere(p) {
		m := begun(t, p, h)
		reaches(t, "the beginning", m, 1, 2)
		steps(t, m, 1)
		want := []int{1, 2, 3}
		for field := range 8 {
			steps(t, m, 2)
			want = append(want, 4+field)
			reaches(t, fmt.Sprintf("with the field %d", field), m, want...)
		}
		steps(t, m, 1)
		reaches(t, "with all fields", m, want...)
		for field := range 8 {
			steps(t, m, 1)
			reaches(t, fmt.Sprintf("without the field %d", field), m, append([]int{1, 2, 3}, want[4+field:]...)...)
		}
	}
}

func TestReachThroughCellsOfEachSize(t *testing.T) {
	for fields := 1; fields <= 8; fields++ {
		lines := fmt.Sprintf("v0 = new %d;v1 = new 1;v0.%d = v1;v1 = null;v0 = null;return", fields, fields-1)
		m := begun(t, of(t, fn(0, 0, 2, lines)), onHeap(of(t, fn(0, 0, 2, lines))))
		steps(t, m, 4)
		reaches(t, fmt.Sprintf("a cell of %d fields", fields), m, 1, 2, 3, 4)
		steps(t, m, 1)
		reaches(t, fmt.Sprintf("nothing points to the cell of %d fields", fields), m, 1, 2)
	}
}

func TestReachThroughEachGlobal(t *testing.T) {
	lines, want := "", []int{1}
	for n := range 16 {
		lines += fmt.Sprintf("v0 = new 2;g%d = v0;", n)
	}
	lines += "v0 = null;"
	for n := range 16 {
		lines += fmt.Sprintf("g%d = v0;", 15-n)
	}
	p := with(t, 16, fn(0, 0, 1, lines+"return"))
	for _, h := range everywhere(p) {
		m := begun(t, p, h)
		want = want[:1]
		for n := range 16 {
			steps(t, m, 2)
			want = append(want, 2+n)
			reaches(t, fmt.Sprintf("with g%d", n), m, want...)
		}
		steps(t, m, 1)
		reaches(t, "with all globals", m, want...)
		for n := range 16 {
			steps(t, m, 1)
			reaches(t, fmt.Sprintf("without g%d", 15-n), m, want[:16-n]...)
		}
	}
}

// Each frame's variables are reached, whoever is the youngest, and what they point to.
func TestReachThroughFrames(t *testing.T) {
	p := of(t, fn(0, 0, 2, "v1 = new 1;f1();v1 = null;jump 0"), fn(0, 0, 3, "v2 = new 1;f2();return"), fn(0, 0, 1, "v0 = new 1;f3();return"), fn(0, 0, 0, "return"))
	for _, h := range everywhere(p)[2:3] { // the variables go with their frames, the News don't
		m := begun(t, p, h)
		steps(t, m, 2)
		reaches(t, "two frames", m, 1, 2, 3, 4, 5, 6)
		steps(t, m, 2)
		reaches(t, "three frames", m, 1, 2, 3, 4, 5, 6, 7, 8)
		steps(t, m, 2)
		reaches(t, "four frames", m, 1, 2, 3, 4, 5, 6, 7, 8, 9)
		steps(t, m, 1)
		reaches(t, "three frames again", m, 1, 2, 3, 4, 5, 6, 7, 8, 9)
		steps(t, m, 1)
		reaches(t, "two frames again", m, 1, 2, 3, 4, 5, 6, 7)
		steps(t, m, 1)
		reaches(t, "one frame again", m, 1, 2, 3)
		steps(t, m, 1)
		reaches(t, "one frame, and no cell", m, 1, 2)
	}
}

// A variable is a cell too: what stands in it leads on, as long as it is there.
func TestReachThroughVariables(t *testing.T) {
	p := of(t, fn(0, 0, 1, "f1();return"), fn(0, 0, 3, "v0 = new 1;v1 = &v0;g0 = v1;return"))
	for i, want := range [][]int{{1}, {1, 2, 5}, {1}, {1, 2}} { // where the New is in the frame, its cell is gone with it
		m := begun(t, p, everywhere(p)[i])
		steps(t, m, 4)
		reaches(t, "in the call", m, 1, 2, 3, 4, 5)
		steps(t, m, 1)
		reaches(t, "behind the call", m, want...)
	}
	p = of(t, fn(0, 0, 3, "v0 = new 1;v1 = &v2;v1.0 = v0;v0 = null;v1 = null;v2 = null;return"))
	for _, h := range everywhere(p) {
		m := begun(t, p, h)
		steps(t, m, 5)
		reaches(t, "a variable that was stored into", m, 1, 2, 3, 4)
		steps(t, m, 1)
		reaches(t, "the variable is nil", m, 1, 2, 3)
	}
}

func TestReachThroughRings(t *testing.T) {
	p := of(t, fn(0, 0, 3, "v0 = new 2;v1 = new 2;v2 = new 2;v0.1 = v1;v1.0 = v2;v2.1 = v0;v2.0 = v2;v1 = null;v2 = null;v0 = null;return"))
	for _, h := range everywhere(p) {
		m := begun(t, p, h)
		for n := range 9 {
			reaches(t, fmt.Sprintf("a ring behind %d steps", n), m, []int{1, 2, 3, 4, 5, 6}[:min(3+n, 6)]...)
			steps(t, m, 1)
		}
		reaches(t, "a whole ring", m, 1, 2, 3, 4, 5, 6)
		steps(t, m, 1)
		reaches(t, "a ring that nothing points to", m, 1, 2, 3)
	}
}

// Two ways to one cell: one of them is enough.
func TestReachByTwoWays(t *testing.T) {
	p := of(t, fn(0, 0, 3, "v0 = new 1;v1 = new 1;v2 = new 1;v0.0 = v2;v1.0 = v2;v2 = null;v0 = null;v1 = null;return"))
	for _, h := range everywhere(p) {
		m := begun(t, p, h)
		steps(t, m, 6)
		reaches(t, "two ways", m, 1, 2, 3, 4, 5, 6)
		steps(t, m, 1)
		reaches(t, "one way", m, 1, 2, 3, 5, 6)
		steps(t, m, 1)
		reaches(t, "no way", m, 1, 2, 3)
	}
}

// A pointer to a cell that is gone leads nowhere, and what stands beside it is looked at all the same.
func TestReachPastWhatIsGone(t *testing.T) {
	p := with(t, 3, fn(0, 0, 4, "v0 = new 3;v1 = new 1;v2 = f1();v0.0 = v2;v0.2 = v1;v1 = null;v2 = null;g0 = v0;v0 = null;return"), fn(0, 1, 3, "v0 = new 1;v1 = &v0;g1 = v1;v2 = new 2;g2 = v2;v2.1 = v0;return v1"))
	h := inFrame(p)
	h.Code[1][0] = true // the cell 10, to which just such point that go with the frame
	m := begun(t, p, h)
	steps(t, m, 9)
	reaches(t, "in the call", m, 1, 2, 3, 4, 5, 6, 7, 8, 9, 10, 11)
	steps(t, m, 1)
	collects(t, "behind the call", m, 1, 2, 3, 4, 5, 6)
	steps(t, m, 6)
	collects(t, "past a field that points to what is gone", m, 1, 2, 3, 4, 5, 6)
	ends(t, m, api.Done)
}

// An int is no pointer, whatever its number.
func TestReachNotThroughInts(t *testing.T) {
	p := of(t, fn(0, 0, 2, "v0 = new 2;v1 = int 3;v0.0 = v1;g0 = v1;v0 = new 1;v0.0 = v1;v1 = int 4;g1 = v1;v0 = int 3;return"))
	for _, h := range everywhere(p) {
		m := begun(t, p, h)
		steps(t, m, 5)
		reaches(t, "the int 3 is not the cell 3", m, 1, 2, 4)
		steps(t, m, 4)
		collects(t, "the ints 3 and 4 are no cells", m, 1, 2)
	}
}

// However a run comes to them, the numbers rise.
func TestReachRises(t *testing.T) {
	var lines strings.Builder
	want := []int{1, 2}
	for n := range 200 {
		lines.WriteString("v0 = new 2;")
		if n%3 == 0 {
			continue
		}
		lines.WriteString(fmt.Sprintf("v0.%d = v1;v1 = v0;", n%2))
		want = append(want, 3+n)
	}
	p := of(t, fn(0, 0, 2, lines.String()+"v0 = null;jump 0"))
	for _, h := range everywhere(p) {
		m := begun(t, p, h)
		steps(t, m, len(p.Funcs[0].Code)-1)
		reaches(t, "a chain, the youngest first", m, want...)
	}
}

// Of a run that is done the globals alone are left; of one that has ended otherwise its frames too.
func TestReachBehindTheEnd(t *testing.T) {
	p := of(t, fn(0, 1, 2, "v0 = new 1;v1 = new 1;g1 = v1;return v0"))
	m := begun(t, p, onHeap(p))
	ends(t, m, api.Done)
	collects(t, "on the heap, Done", m, 4)
	m = begun(t, p, inFrame(p))
	ends(t, m, api.Done)
	collects(t, "in the frame, Done", m)
	p = of(t, fn(0, 0, 2, "v0 = new 1;f1();return"), fn(0, 0, 1, "v0 = new 1;v0 = new 1;v0 = v0.1;return"))
	for _, h := range everywhere(p) {
		m = begun(t, p, h)
		ends(t, m, api.Fields)
		collects(t, "Fields", m, 1, 2, 3, 4, 6)
		if m.Step() {
			t.Error("P4.2: a run goes on behind its end")
		}
	}
}

// A run without variables and globals can come to nothing.
func TestReachOfNothing(t *testing.T) {
	p := with(t, 0, fn(0, 0, 0, "f1();jump 1"), fn(0, 0, 2, "v0 = new 1;v1 = v0;return"))
	m := begun(t, p, onHeap(p))
	collects(t, "the beginning", m)
	steps(t, m, 4)
	collects(t, "behind the call", m)
}

// What others store into the memory counts as if the run had done it.
func TestReachOfWhatOthersStored(t *testing.T) {
	p := of(t, fn(0, 0, 2, "v0 = new 1;v0 = new 1;v0 = null;jump 3"))
	m := begun(t, p, onHeap(p))
	steps(t, m, 3)
	m.Memory().Store(ptr(4), 0, ptr(3))
	reaches(t, "a way that begins nowhere", m, 1, 2)
	m.Memory().SetGlobal(1, ptr(4))
	collects(t, "a way from a global", m, 1, 2, 3, 4)
	m.Memory().Store(ptr(2), 0, ptr(3))
	m.Memory().SetGlobal(1, null)
	collects(t, "a way from a variable", m, 1, 2, 3)
}
