package crew

import "sync"

// letGo: each worker is a goroutine that goes on as it likes; all have ended when it answers.
func letGo(k *known) {
	var all sync.WaitGroup
	for i := range k.deques {
		w := &worker{known: k, number: i}
		all.Go(w.work)
	}
	all.Wait()
}

// work: a task for each note.
func (w *worker) work() {
	for range w.notes {
		w.do(w.find())
	}
}

// find: a task: its own last one, or else another's first. Who has a note goes round until it has found one: there is one for each note, and if all are gone from where it looks, others have got them.
func (w *worker) find() int {
	if c, is := w.deques[w.number].Pop(); is {
		return c
	}
	for from := w.number + 1; ; from++ {
		if c, is := w.deques[from%len(w.deques)].Steal(); is {
			return c
		}
	}
}

func (w *worker) do(component int) {
	w.begin(component)
	for _, c := range w.graph.Callees(component) {
		w.look(c)
	}
	w.task.settle()
	w.publish()
	for _, d := range w.graph.Callers(component) {
		w.lower(d)
	}
	w.finish()
}

// settle: until no member is open. What it comes to is the same in any order, so that nobody is asked in vain.
func (t *task) settle() {
	open := make([]int, len(t.members))
	for m := range open {
		open[m] = m
	}
	for len(open) > 0 {
		var next []int
		for _, m := range open {
			_, opened := t.pass(m)
			next = append(next, opened...)
		}
		open = next
	}
}
