package crew

import (
	"slices"

	"fugue/api"
	"fugue/calls"
	"fugue/solve"
)

// task: a component in a worker's hands: a program of its functions and of those that they call, numbered anew, so that how many functions there are besides makes no pass longer.
type task struct {
	component int
	members   []int         // its functions, rising, by the numbers that they have in the whole program
	p         api.Program   // the members ahead of the others
	sums      []api.Summary // by function of p
	number    map[int]int   // a function's number in p, by the one that it has in the whole program
	asks      map[int][]int // by component that it calls: those of its functions that it calls
	callers   [][]int       // by member: the members that call it
	open      []bool        // by member: may its summary come out another one than the one that is there?
}

func newTask(p api.Program, g *calls.Graph, c int) *task {
	members := g.Members(c)
	t := &task{
		component: c,
		members:   members,
		p:         api.Program{Globals: p.Globals},
		number:    make(map[int]int, len(members)),
		asks:      map[int][]int{},
		callers:   make([][]int, len(members)),
		open:      slices.Repeat([]bool{true}, len(members)),
	}
	for _, f := range members {
		t.add(f, p.Funcs[f])
	}
	for m := range members {
		t.link(m, p, g)
	}
	return t
}

// add: a function gets the next number, and the lowest summary.
func (t *task) add(f int, body api.Func) int {
	n := len(t.p.Funcs)
	t.number[f] = n
	t.p.Funcs = append(t.p.Funcs, body)
	t.sums = append(t.sums, solve.Lowest(body))
	return n
}

// link: a member's calls by the new numbers.
func (t *task) link(m int, p api.Program, g *calls.Graph) {
	code := slices.Clone(t.p.Funcs[m].Code)
	for at, in := range code {
		if in.Op != api.Call {
			continue
		}
		n, is := t.number[in.N]
		if !is {
			n = t.add(in.N, p.Funcs[in.N])
			c := g.Of(in.N)
			t.asks[c] = append(t.asks[c], in.N)
		}
		code[at].N = n
		t.calls(m, n)
	}
	t.p.Funcs[m].Code = code
}

// calls: all that one member calls comes ahead of the next one's, so that it has been told already just if it was told last.
func (t *task) calls(m, n int) {
	if n >= len(t.members) {
		return
	}
	if l := t.callers[n]; len(l) == 0 || l[len(l)-1] != m {
		t.callers[n] = append(l, m)
	}
}

// know: the summary of a function that it calls.
func (t *task) know(f int, s api.Summary) { t.sums[t.number[f]] = s }

// pass: a member's summary anew: is it another one? And who is open by that and was not? One that is not open is passed over, since it would come out as it is. (Nothing of a right program is refused.)
func (t *task) pass(m int) (bool, []int) {
	if !t.open[m] {
		return false, nil
	}
	t.open[m] = false
	_, s, _ := solve.Function(t.p, m, t.sums)
	if same(t.sums[m], s) {
		return false, nil
	}
	t.sums[m] = s
	return true, t.reopen(m)
}

// reopen: those that call a member whose summary is another one.
func (t *task) reopen(m int) []int {
	var l []int
	for _, c := range t.callers[m] {
		if !t.open[c] {
			t.open[c] = true
			l = append(l, c)
		}
	}
	return l
}

func same(a, b api.Summary) bool {
	return slices.Equal(a.Heap, b.Heap) && slices.EqualFunc(a.Result, b.Result, slices.Equal)
}
