package incr

import "fugue/api"

// numbers: a summary's, by parameter: to the heap, then to each result; one more than each, so that 0 stands where the summary has none.
type numbers [api.MaxParams][1 + api.MaxResults]int

func laid(s api.Summary) numbers {
	var n numbers
	for i, d := range s.Heap {
		n[i][0] = 1 + d
		for j, d := range s.Result[i] {
			n[i][1+j] = 1 + d
		}
	}
	return n
}
