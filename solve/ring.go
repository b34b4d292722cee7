package solve

import (
	"slices"

	"fugue/api"
)

// ring: a component by itself: a program of its functions and of those that they call, numbered anew. Nothing else is looked at, so that how many functions there are besides makes no pass longer.
type ring struct {
	p       api.Program   // the members ahead of the others
	sums    []api.Summary // by function of p
	numbers map[int]int   // a function's number in p, by the one that it had
	members int
	callers [][]int // by member: the members that call it
	open    open    // members of which Function may answer another summary than the one that is there
}

func newRing(p api.Program, members []int, sums []api.Summary) *ring {
	r := &ring{
		p:       api.Program{Globals: p.Globals},
		numbers: make(map[int]int, len(members)),
		members: len(members),
		callers: make([][]int, len(members)),
		open:    newOpen(len(members)),
	}
	for _, f := range members {
		r.add(f, p.Funcs[f], Lowest(p.Funcs[f]))
	}
	for m := range members {
		r.open.put(m)
		r.link(m, p, sums)
	}
	return r
}

func (r *ring) add(was int, f api.Func, s api.Summary) int {
	n := len(r.p.Funcs)
	r.numbers[was] = n
	r.p.Funcs = append(r.p.Funcs, f)
	r.sums = append(r.sums, s)
	return n
}

// link: a member's calls by the new numbers.
func (r *ring) link(member int, p api.Program, sums []api.Summary) {
	code := slices.Clone(r.p.Funcs[member].Code)
	for at, in := range code {
		if in.Op != api.Call || in.N < 0 || in.N >= len(p.Funcs) {
			continue // the number of no function is none here either, since there are no more than there were
		}
		n, ok := r.numbers[in.N]
		if !ok {
			n = r.add(in.N, p.Funcs[in.N], sums[in.N])
		}
		code[at].N = n
		r.calls(member, n)
	}
	r.p.Funcs[member].Code = code
}

func (r *ring) calls(member, n int) {
	if n >= r.members {
		return
	}
	if l := r.callers[n]; len(l) == 0 || l[len(l)-1] != member {
		r.callers[n] = append(l, member)
	}
}

// solve: in rounds, until nothing changes; how many passes that is. One that is not open is passed over, since it would only be told what stands there; it counts as asked.
func (r *ring) solve() (int, api.Errno) {
	passes := 0
rounds:
	for changed := true; changed; passes += r.members {
		changed = false
		for next := 0; ; next++ {
			m, ok := r.open.take(next)
			if !ok {
				continue rounds
			}
			_, s, e := Function(r.p, m, r.sums)
			if e != api.OK {
				return 0, e
			}
			changed = r.put(m, s) || changed
			next = m
		}
	}
	return passes, api.OK
}

// put: a member's summary from now on; is it another one?
func (r *ring) put(m int, s api.Summary) bool {
	if same(r.sums[m], s) {
		return false
	}
	r.sums[m] = s
	for _, c := range r.callers[m] {
		r.open.put(c)
	}
	return true
}

func same(a, b api.Summary) bool {
	return slices.Equal(a.Heap, b.Heap) && slices.EqualFunc(a.Result, b.Result, slices.Equal)
}
