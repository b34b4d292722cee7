package weigh

// todo: what is still to be looked at, of things that are numbered from 0 on. One that is put in again while it waits is given back once: a second look would find nothing that the first did not.
type todo[N ~int] struct {
	list  []N
	waits []bool // by number
}

func newTodo[N ~int](numbers int) *todo[N] { return &todo[N]{waits: make([]bool, numbers)} }

func (t *todo[N]) put(n N) {
	if t.waits[n] {
		return
	}
	t.waits[n] = true
	t.list = append(t.list, n)
}

// take: the one that came last, since no order makes an answer another one.
func (t *todo[N]) take() (N, bool) {
	last := len(t.list) - 1
	if last < 0 {
		return 0, false
	}
	n := t.list[last]
	t.list = t.list[:last]
	t.waits[n] = false
	return n, true
}
