package calls

import "container/heap"

// ready: the components that can be numbered, each told by its lowest function; a heap, whose first is the one to be numbered next.
type ready []int

func (r ready) Len() int           { return len(r) }
func (r ready) Less(i, j int) bool { return r[i] < r[j] }
func (r ready) Swap(i, j int)      { r[i], r[j] = r[j], r[i] }
func (r *ready) Push(f any)        { *r = append(*r, f.(int)) }

func (r *ready) Pop() any {
	last := len(*r) - 1
	f := (*r)[last]
	*r = (*r)[:last]
	return f
}

// numbers: by component the number that it is to have.
func (g *Graph) numbers() []int {
	number := make([]int, g.Len())
	waits := make([]int, g.Len()) // by component: for how many callees without a number
	var can ready
	for c, callees := range g.callees {
		waits[c] = len(callees)
		if waits[c] == 0 {
			heap.Push(&can, g.members[c][0])
		}
	}
	for next := 0; can.Len() > 0; next++ {
		c := g.of[heap.Pop(&can).(int)]
		number[c] = next
		for _, d := range g.callers[c] {
			waits[d]--
			if waits[d] == 0 {
				heap.Push(&can, g.members[d][0])
			}
		}
	}
	return number
}
