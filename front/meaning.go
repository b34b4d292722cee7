package front

// end: what a node does when its parts are over, whose values were given last.
func (m *machine) end(n node) {
	switch n := n.(type) {
	case *variable:
		m.set(n.slot, m.pop())
	case *show:
		m.trace.Prints = append(m.trace.Prints, m.pop().told(n.kind))
	case *giveBack:
		m.leave()
	case *choice:
		if m.pop().isTrue() {
			m.add(n.then)
		} else if n.other != nil {
			m.add(n.other)
		}
	case *loop:
		// Asked again it is a step again, as when it began.
		if m.pop().isTrue() {
			m.add(n)
			m.add(n.body)
		}
	case *plainCall:
		m.take(len(n.of[0].(*call).to.results))
	case *several:
		for i, v := range m.take(len(n.to)) {
			m.set(n.to[i].slot, v)
		}
	case *setName:
		m.set(n.to.slot, m.pop())
	case *setField:
		m.setThrough(n.at)
	case *setBehind:
		m.setThrough(0)
	case *block:
		m.leaveAtEnd()
	default:
		m.evaluate(n)
	}
}

// leaveAtEnd: a function that comes to its end gives nothing but 0 and null.
func (m *machine) leaveAtEnd() {
	f := m.youngest()
	if len(m.tasks) > f.tasks {
		return // only a block within it is over
	}
	for range f.of.results {
		m.push(value{})
	}
	m.leave()
}

// setThrough: the last value goes into that field of what the one ahead of it points to.
func (m *machine) setThrough(at int) {
	v := m.pop()
	if to, is := m.follow(m.pop()); is {
		to[at] = v
	}
}

// evaluate gives an expression's value.
func (m *machine) evaluate(n node) {
	switch n := n.(type) {
	case *number:
		m.push(value{n: n.n})
	case *name:
		m.push(m.cell(n.use.slot)[0])
	case *address:
		m.push(value{to: m.cell(n.use.slot)})
	case *made:
		m.push(value{to: make([]value, n.fields)})
	case *null:
		m.push(value{})
	case *behind:
		m.load(0)
	case *field:
		m.load(n.at)
	case *binary:
		right, left := m.pop(), m.pop()
		m.push(left.with(n.sign, right))
	case *call:
		m.begin(n.to)
	}
}

// load gives that field of what the last value points to.
func (m *machine) load(at int) {
	if from, is := m.follow(m.pop()); is {
		m.push(from[at])
	}
}
