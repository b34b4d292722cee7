package run

import "fugue/api"

// frame: a function that has begun and is not over.
type frame struct {
	which int // its function's number
	place int // that of the instruction that is next
	first int // the number of its first variable's cell: those of the others follow it
}

// variable: the cell of a variable, as a pointer.
func (f frame) variable(v int) api.Value {
	return pointer(f.first + v)
}

// begin: the frame of a function begins with these arguments.
func (m *Machine) begin(which int, args []api.Value) {
	m.memory.Push()
	f := frame{which: which}
	for v, heap := range m.funcs[which].vars {
		n, _ := m.memory.Make(1, heap)
		if v == 0 {
			f.first = n
		}
	}
	m.frames = append(m.frames, f)
	for v, x := range args {
		m.write(v, x)
	}
}

// finish: the youngest frame is gone.
func (m *Machine) finish() {
	m.memory.Pop()
	m.frames = m.frames[:len(m.frames)-1]
}

func (m *Machine) youngest() *frame {
	return &m.frames[len(m.frames)-1]
}

// next: the youngest frame's next instruction; its place goes on, which a jump changes behind this.
func (m *Machine) next() *line {
	f := m.youngest()
	f.place++
	return m.last()
}

// last: the instruction that the youngest frame has come from: of one that a callee has returned to, the Call.
func (m *Machine) last() *line {
	f := m.youngest()
	return &m.funcs[f.which].code[f.place-1]
}

// read: what a variable of the youngest frame is.
func (m *Machine) read(v int) api.Value {
	x, _ := m.memory.Load(m.youngest().variable(v), 0)
	return x
}

func (m *Machine) readAll(vars []int) []api.Value {
	var out []api.Value
	for _, v := range vars {
		out = append(out, m.read(v))
	}
	return out
}

// write: a variable of the youngest frame is x from now on.
func (m *Machine) write(v int, x api.Value) {
	m.memory.Store(m.youngest().variable(v), 0, x)
}
