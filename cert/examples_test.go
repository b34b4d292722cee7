package cert_test

import (
	"bytes"
	"testing"

	"fugue/api"
	"fugue/cert"
)

// The chapter's example: the program of chapter 10's first one.
func TestExample(t *testing.T) {
	p := of(t, fn(0, 0, 3, "v0 = &v1;v2 = f1(v0);return"), fn(1, 1, 1, "return v0"))
	r := api.Result{
		Sums: []api.Summary{{}, {Heap: []int{none}, Result: [][]int{{0}}}},
		Vars: [][]bool{{false, false, false}, {false}},
		Code: [][]bool{{false, false, false}, {false}},
	}
	want := []byte{0x63, 0x65, 1, 0, 0, 0, 1, 0}
	if b, e := cert.Make(p); e != api.OK || !bytes.Equal(b, want) {
		t.Errorf("P19.1: the example: Make: %x, error %d, want %x", b, e, want)
	}
	accepts(t, "the example", p, r, want)
	refuses(t, "the example with 0", p, r, []byte{0x63, 0x65, 1, 0, 0, 0, 0, 0})
	refuses(t, "the example with 1 1", p, r, []byte{0x63, 0x65, 2, 0, 0, 0, 1, 0, 1, 0})
	refuses(t, "the example without passes", p, r, []byte{0x63, 0x65, 0, 0, 0, 0})
}

// Chapter 10's other examples, each with what it says.
func TestExamplesOfWhole(t *testing.T) {
	p := of(t, fn(0, 0, 3, "v0 = &v1;v2 = f1(v0);return"), fn(1, 1, 1, "g0 = v0;return v0"))
	r := api.Result{
		Sums: []api.Summary{{}, {Heap: []int{0}, Result: [][]int{{0}}}},
		Vars: [][]bool{{false, true, false}, {false}},
		Code: [][]bool{{false, false, false}, {false, false}},
	}
	accepts(t, "the second example", p, r, bytesOf(1))
	p = of(t, fn(1, 1, 2, "v1 = f0(v0);return v1"))
	r = api.Result{Sums: []api.Summary{{Heap: []int{none}, Result: [][]int{{none}}}}, Vars: [][]bool{{false, false}}, Code: [][]bool{{false, false}}}
	accepts(t, "the third example", p, r, bytesOf())
	for d := range 4 {
		r.Sums[0].Result[0][0] = d
		refuses(t, "another solution of the third example", p, r, bytesOf())
		refuses(t, "another solution of the third example", p, r, bytesOf(0))
	}
}
