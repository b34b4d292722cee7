package gc

import (
	"fugue/api"
	"fugue/cells"
	"fugue/run"
)

// collector: who collects in the memory of a run; the room of one collection serves the next one too.
type collector struct {
	machine *run.Machine
	memory  *cells.Memory
	marks   map[int]struct{} // the cells that the run can come to
	open    []api.Value      // values that the run can come to and that are still to be followed
}

func newCollector(m *run.Machine) *collector {
	return &collector{machine: m, memory: m.Memory(), marks: make(map[int]struct{})}
}

// collect drops what the run cannot come to: how many cells. Of a nil run there is no memory, which Drop refuses.
func (c *collector) collect() (int, api.Errno) {
	c.mark()
	dead := c.unmarked()
	if e := c.memory.Drop(dead...); e != api.OK {
		return 0, e
	}
	return len(dead), api.OK
}

// mark marks all cells that the run can come to. What is still to be followed stands in a list: a chain of cells may be longer than the language's own calls go deep.
func (c *collector) mark() {
	clear(c.marks)
	c.open = append(c.open[:0], c.machine.Roots()...)
	for len(c.open) > 0 {
		last := len(c.open) - 1
		v := c.open[last]
		c.open = c.open[:last]
		if v.Kind == api.Ptr && !c.isMarked(v.N) {
			c.follow(v)
		}
	}
}

// follow marks the cell of a pointer and opens what stands in its fields. A cell that is gone answers no field; one that is there has at least one, and the first that it has not is behind its last.
func (c *collector) follow(pointer api.Value) {
	for field := range api.MaxFields {
		v, e := c.memory.Load(pointer, field)
		if e != api.OK {
			return
		}
		if field == 0 {
			c.marks[pointer.N] = struct{}{}
		}
		c.open = append(c.open, v)
	}
}

// unmarked: the cells that are there and that the run cannot come to, rising.
func (c *collector) unmarked() []int {
	var dead []int
	for _, n := range c.memory.Live() {
		if !c.isMarked(n) {
			dead = append(dead, n)
		}
	}
	return dead
}

func (c *collector) isMarked(n int) bool {
	_, is := c.marks[n]
	return is
}
