package incr

import (
	"testing"

	"fugue/api"
)

// shapes: summaries of several shapes, with numbers in one place each.
func shapes() []api.Summary {
	var l []api.Summary
	for params := range api.MaxParams + 1 {
		for results := range api.MaxResults + 1 {
			if params == 0 && results > 0 {
				continue // without parameters there are no numbers, whatever the results
			}
			for at := range max(params*(1+results), 1) {
				for _, d := range []int{0, 1, api.MaxDeref} {
					l = append(l, shaped(params, results, at, d))
				}
			}
			l = append(l, shaped(params, results, -1, 0))
		}
	}
	return l
}

// shaped: None everywhere but at one place.
func shaped(params, results, place, d int) api.Summary {
	at := 0
	number := func() int {
		at++
		if at-1 == place {
			return d
		}
		return api.None
	}
	var s api.Summary
	for range params {
		s.Heap = append(s.Heap, number())
		var l []int
		for range results {
			l = append(l, number())
		}
		s.Result = append(s.Result, l)
	}
	return s
}

func alike(a, b api.Summary) bool {
	if len(a.Heap) != len(b.Heap) {
		return false
	}
	for i := range a.Heap {
		if a.Heap[i] != b.Heap[i] || len(a.Result[i]) != len(b.Result[i]) {
			return false
		}
		for j := range a.Result[i] {
			if a.Result[i][j] != b.Result[i][j] {
				return false
			}
		}
	}
	return true
}

// Two summaries are the same just if they have the same numbers in the same places, and as many.
func TestLaidNumbers(t *testing.T) {
	l := shapes()
	for _, a := range l {
		for _, b := range l {
			if (laid(a) == laid(b)) != alike(a, b) {
				t.Fatalf("P20.3: %v and %v: the same: %v", a, b, laid(a) == laid(b))
			}
		}
	}
}
