package crew

import "fugue/sums"

// worker: one of a run, with all that is known of the run.
type worker struct {
	*known
	number int
	task   *task // nil: it has none
}

func (w *worker) begin(component int) {
	w.task = newTask(w.p, w.graph, component)
}

// look: what its task needs of a component that it calls; was it there?
func (w *worker) look(component int) bool {
	text, is := w.table.Lookup(component)
	if !is {
		return false
	}
	for _, f := range w.task.asks[component] {
		w.task.know(f, w.read(text, f))
	}
	return true
}

// publish: its task's summaries; were they new?
func (w *worker) publish() bool {
	t := w.task
	many := len(t.members)
	b, _ := sums.Encode(t.p.Funcs[:many], t.sums[:many]) // passes make right ones alone
	return w.table.Publish(t.component, string(b))
}

// lower: the counter of one that calls its task falls; to what? Who brings it to 0 is the only one, and pushes it.
func (w *worker) lower(component int) int {
	n := int(w.counters[component].Add(-1))
	if n == 0 {
		w.push(w.number, component)
	}
	return n
}

// finish: with the last one no more notes come. (Whoever still had one to send would have a task that is not finished.)
func (w *worker) finish() {
	w.task = nil
	if w.left.Add(-1) == 0 {
		close(w.notes)
	}
}
