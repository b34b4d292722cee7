package crew

import (
	"sync/atomic"

	"fugue/api"
	"fugue/calls"
	"fugue/deque"
	"fugue/sums"
	"fugue/table"
)

// known: what is known of a run, to all of its workers. Whatever changes in it may be asked and changed by several at one time.
type known struct {
	p        api.Program
	graph    *calls.Graph
	begins   []int          // by function: where its summary begins among its component's bytes
	table    *table.Table   // by component: its summaries' bytes
	deques   []*deque.Deque // by worker
	counters []atomic.Int64 // by component: for how many that it calls it waits
	left     atomic.Int64   // how many components are not finished
	notes    chan struct{}  // one for each task that was pushed, until somebody takes it up
}

// newKnown: of a run that has not begun; the tasks stand there that wait for nobody.
func newKnown(p api.Program, workers int) (*known, api.Errno) {
	g, e := graph(p, workers)
	if e != api.OK {
		return nil, e
	}
	k := &known{
		p:        p,
		graph:    g,
		begins:   begins(p, g),
		table:    table.New(),
		counters: make([]atomic.Int64, g.Len()),
		notes:    make(chan struct{}, g.Len()), // each component is pushed once: nobody ever waits to send
	}
	for range workers {
		k.deques = append(k.deques, deque.New())
	}
	k.left.Store(int64(g.Len()))
	for c := range k.counters {
		waits := len(g.Callees(c))
		k.counters[c].Store(int64(waits))
		if waits == 0 {
			k.push(c%workers, c)
		}
	}
	return k, api.OK
}

// graph: the workers are counted ahead of any look at the program.
func graph(p api.Program, workers int) (*calls.Graph, api.Errno) {
	if workers < 1 || workers > api.MaxWorkers {
		return nil, api.ErrWorkers
	}
	return calls.New(p)
}

// begins: a component's bytes are those of its functions, rising.
func begins(p api.Program, g *calls.Graph) []int {
	l, ends := make([]int, len(p.Funcs)), make([]int, g.Len())
	for f, head := range p.Funcs {
		c := g.Of(f)
		l[f] = ends[c]
		ends[c] += numbers(head)
	}
	return l
}

// numbers: how many a function's summary has; each is a byte.
func numbers(f api.Func) int { return f.Params + f.Params*f.Results }

// push: the note comes behind the task, so that there is a task for everybody who has one.
func (k *known) push(worker, task int) {
	k.deques[worker].Push(task)
	k.notes <- struct{}{}
}

// read: a function's summary out of its component's bytes. The others' are passed over, since one that calls into a long ring needs few of them. (What was published was right, so that nothing is refused.)
func (k *known) read(text string, f int) api.Summary {
	head := k.p.Funcs[f]
	from := k.begins[f]
	l, _ := sums.Decode([]api.Func{head}, []byte(text[from:from+numbers(head)]))
	return l[0]
}

// summaries: all of them, by function, when all is published.
func (k *known) summaries() []api.Summary {
	l := make([]api.Summary, len(k.p.Funcs))
	for f := range l {
		text, _ := k.table.Lookup(k.graph.Of(f))
		l[f] = k.read(text, f)
	}
	return l
}
