package why_test

import (
	"slices"
	"testing"

	"fugue/api"
)

// From a global back each line leads from a variable to the next one; the last of those on the heap is far away.
func TestFarFromTheHeap(t *testing.T) {
	for _, c := range []struct {
		what  string
		lines string
		heap  []int // variables
		most  int   // derefs in the last one's witness
	}{
		{"an address", "g0 = v0;v0 = &v1;return", []int{1}, 0},
		{"a Load and two addresses", "g0 = v0;v0 = v1.0;v1 = &v2;v2 = &v3;return", []int{3}, 1},
		{"three Loads and four addresses", "g0 = v0;v0 = v1.0;v1 = v2.1;v2 = v3.2;v3 = &v4;v4 = &v5;v5 = &v6;v6 = &v7;return", []int{7}, 3},
		{"four Loads and four addresses", "g0 = v0;v0 = v1.0;v1 = v2.1;v2 = v3.2;v3 = v4.0;v4 = &v5;v5 = &v6;v6 = &v7;v7 = &v8;return", []int{8}, 3},
		{"four Loads and three addresses", "g0 = v0;v0 = v1.0;v1 = v2.1;v2 = v3.2;v3 = v4.0;v4 = &v5;v5 = &v6;v6 = &v7;return", nil, 0},
		{"an address and what flows into it", "g0 = v0;v0 = &v1;v1 = v2.0;v2 = &v3;v3 = &v4;v4 = &v5;return", []int{1, 4, 5}, 1},
		{"round", "g0 = v0;v0 = v1.0;v1 = v0.0;v1 = &v2;v2 = &v3;return", []int{3}, 1},
	} {
		p := of(t, fn(0, 0, 9, c.lines))
		var heap []int
		for _, s := range onHeap(t, p) {
			heap = append(heap, s.Var)
		}
		if !slices.Equal(heap, c.heap) {
			t.Fatalf("%s: on the heap: %v", c.what, heap)
		}
		for i, w := range agrees(t, c.what, p) {
			most := slices.MaxFunc(w, func(a, b api.Step) int { return a.Derefs - b.Derefs }).Derefs
			if i == len(heap)-1 && most != c.most {
				t.Errorf("P18.2: %s: the witness %v", c.what, w)
			}
		}
	}
}

// Where fewer derefs are found behind more, both may be told, each by a step of its own; and the way with more is none.
func TestFewerBehindMore(t *testing.T) {
	p := of(t, fn(0, 0, 6, "g0 = v0;v0 = v1.0;v1 = v4;v4 = &v5;v0 = v2;v2 = v3;v3 = v1;return"))
	w := found(t, "fewer behind more", p, variable(0, 5))
	if w[len(w)-1] != step(numbers{0, 0, 6, -1, 2, 3}) || !slices.Contains(w, step(numbers{0, 0, 2, 0, 2, 6})) {
		t.Errorf("P18.2: fewer behind more: %v", w)
	}
	agrees(t, "fewer behind more", p)
}

// A site on the heap by several ways; by a callee's numbers that come round in a ring again and again; by a function that is called with itself.
func TestThroughRings(t *testing.T) {
	for _, p := range []api.Program{
		of(t, fn(0, 1, 2, "v1 = &v0;g0 = v1;v0 = f1(v1);return v1"), fn(1, 1, 2, "v1 = f2(v0);return v1"), fn(1, 1, 2, "v1 = f1(v0);return v1;g1 = v0;return v0")),
		of(t, fn(2, 2, 5, "v3, v2 = f0(v1, v0);if v2 jump 4;return v2, v3;v4 = v0.0;return v4, v1"), fn(0, 0, 4, "v0 = &v1;v1 = &v2;v2, v3 = f0(v0, v0);g0 = v3;v3 = &v2;return")),
		of(t, fn(1, 0, 1, "f1(v0);return"), fn(1, 0, 2, "v1 = v0.0;f2(v1);return"), fn(1, 0, 2, "f0(v0);v1 = v0.0;g0 = v1;return"), fn(0, 0, 5, "v0 = &v1;v1 = &v2;v2 = &v3;v3 = &v4;f0(v0);return")),
		of(t, fn(0, 0, 3, "v0 = new 1;v1 = f1(v0, v0);v2 = f1(v1, v2);g0 = v2;return"), fn(2, 1, 2, "v0 = f1(v1, v0);return v0;return v1")),
	} {
		if len(agrees(t, "a ring", p)) == 0 {
			t.Errorf("nothing is on the heap in\n%s", told(p))
		}
	}
}
