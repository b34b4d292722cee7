package why

import "fugue/api"

// The rules by which a step stands.
const (
	byRoot = 1 + iota
	byCode
	byCallToHeap
	byCallToResult
	byEscape
)

// The locations' numbers: the heap, then the results.
const (
	heap        = 0
	firstResult = 1
)

const address = -1

// ends: in the function f src flows to dst, which is the heap or a result of f.
type ends struct{ f, dst, src int }

// fact: what a step tells.
type fact struct {
	ends
	derefs int
}

func endsOf(s api.Step) ends { return ends{s.Func, s.Dst, s.Src} }

func factOf(s api.Step) fact { return fact{endsOf(s), s.Derefs} }

// plus: chapter 6's Plus, where neither is None. (Layer 6 is not one of those that the map names for this one.)
func plus(d, w int) int { return min(max(d, 0)+w, api.MaxDeref) }

func below(n, end int) bool { return n >= 0 && n < end }
