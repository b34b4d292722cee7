package front

import "fugue/api"

// machine: a run of a source. Calls stand in lists of its own, not in the language's.
type machine struct {
	fuel    int
	globals []value
	frames  []frame
	tasks   []task
	values  []value // of the expressions that are over, as long as their nodes are not
	trace   api.Trace
}

// frame: a function that has begun and is not over.
type frame struct {
	of    *fn
	vars  []value
	tasks int // how many there were ahead of its own
}

// task: a node that is not over.
type task struct {
	of   node
	next int // which of its parts is next; 0: it has not begun
}

// runOf: the trace of a run of a source whose first function takes so many arguments.
func runOf(s *source, fuel int, args []int) api.Trace {
	m := &machine{fuel: fuel, globals: make([]value, len(s.globals))}
	for _, n := range args {
		m.push(value{n: n})
	}
	m.begin(s.fns[0])
	m.trace.End = api.Fuel
	for len(m.tasks) > 0 && m.goOn() {
	}
	return m.trace
}

// goOn begins a node, or goes on with its next part, or ends it; false: there is no fuel.
func (m *machine) goOn() bool {
	t := &m.tasks[len(m.tasks)-1]
	if t.next == 0 && isStep(t.of) {
		if m.trace.Steps >= m.fuel {
			return false
		}
		m.trace.Steps++
	}
	if parts := t.of.parts(); t.next < len(parts) {
		t.next++
		m.add(parts[t.next-1])
		return true
	}
	m.tasks = m.tasks[:len(m.tasks)-1]
	m.end(t.of)
	return true
}

func isStep(n node) bool {
	switch n.(type) {
	case *bracket, *block:
		return false
	}
	return true
}

func (m *machine) add(n node) { m.tasks = append(m.tasks, task{of: n}) }

func (m *machine) push(v value) { m.values = append(m.values, v) }

func (m *machine) pop() value { return m.take(1)[0] }

// take: the last values, in their order; they are not there any more.
func (m *machine) take(many int) []value {
	left := len(m.values) - many
	last := m.values[left:]
	m.values = m.values[:left]
	return last
}

// begin: a function's frame, with the arguments that were given last.
func (m *machine) begin(f *fn) {
	vars := make([]value, f.vars)
	copy(vars, m.take(len(f.params)))
	m.frames = append(m.frames, frame{f, vars, len(m.tasks)})
	m.add(f.body)
}

// leave: the youngest frame is over; its results are the values that were given last.
func (m *machine) leave() {
	f := m.youngest()
	m.tasks = m.tasks[:f.tasks]
	m.frames = m.frames[:len(m.frames)-1]
	if len(m.frames) > 0 {
		return
	}
	m.trace.End = api.Done
	for i, v := range m.take(len(f.of.results)) {
		m.trace.Results = append(m.trace.Results, v.told(f.of.results[i].kind))
	}
}

func (m *machine) youngest() frame { return m.frames[len(m.frames)-1] }

// cell: that of a variable or of a global.
func (m *machine) cell(s slot) []value {
	from := m.globals
	if !s.global {
		from = m.youngest().vars
	}
	return from[s.at : s.at+1 : s.at+1]
}

func (m *machine) set(s slot, v value) { m.cell(s)[0] = v }

// follow: the cell that a value points to; false: to none, and the run is over.
func (m *machine) follow(v value) ([]value, bool) {
	if v.isNull() {
		m.trace.End = api.Nils
		m.tasks = nil
	}
	return v.to, !v.isNull()
}
