package front

import "fugue/api"

func (c *checker) exprs(l []node) []kind {
	var kinds []kind
	for _, n := range l {
		kinds = append(kinds, c.expr(n))
	}
	return kinds
}

// expr: an expression's type.
func (c *checker) expr(n node) kind {
	switch n := n.(type) {
	case *name:
		return c.find(&n.use)
	case *address:
		k := c.find(&n.use)
		must(!n.use.slot.global, api.ErrType, n.place())
		return k.pointer()
	case *made:
		return c.made(n)
	case *null:
		c.known(n.written)
		must(n.written.kind.isPointer(), api.ErrType, n.place())
		return n.written.kind
	case *behind:
		n.kind = c.behind(n.of[0], n.place())
		return n.kind
	case *field:
		f := c.field(n.of[0], n.word)
		n.at, n.kind = f.at, f.kind
		return n.kind
	case *binary:
		c.binary(n)
	case *call:
		results := c.callee(n).results
		must(len(results) == 1, api.ErrType, n.word.line)
		c.arguments(n)
		return results[0].kind
	case *bracket:
		return c.expr(n.of[0])
	}
	return kind{of: intName} // of numbers, sums and what is held against each other
}

func (c *checker) made(m *made) kind {
	c.known(m.written)
	k := m.written.kind.pointer()
	m.fields = 1 // a record without fields has one too, that nothing names
	if k.toRecord() {
		m.fields = max(1, len(c.records[k.of].fields))
	}
	return k
}

// behind: the type of what a pointer points to, whose star stands in that line.
func (c *checker) behind(n node, line int) kind {
	k := c.expr(n)
	must(k.isPointer() && !k.toRecord(), api.ErrType, line)
	return k.behind()
}

// field: a field of the record that n points to, by its number.
func (c *checker) field(n node, w word) slot {
	k := c.expr(n)
	must(k.toRecord(), api.ErrType, n.place())
	fields := c.records[k.of].fields
	at := indexOf(fields, w.text)
	must(at >= 0, api.ErrName, w.line)
	return slot{at: at, kind: fields[at].written.kind}
}

func (c *checker) binary(b *binary) {
	kinds := c.exprs(b.of)
	wanted := kind{of: intName}
	if b.sign == "==" {
		wanted = kinds[0]
	}
	for i, k := range kinds {
		must(k == wanted, api.ErrType, b.of[i].place())
	}
}

// callee: the function that is called, by its name and with so many arguments.
func (c *checker) callee(n *call) *fn {
	n.to = c.fns[n.word.text]
	must(n.to != nil, api.ErrName, n.word.line)
	must(len(n.of) == len(n.to.params), api.ErrType, n.word.line)
	return n.to
}

func (c *checker) arguments(n *call) {
	for i, k := range c.exprs(n.of) {
		must(k == n.to.params[i].written.kind, api.ErrType, n.of[i].place())
	}
}
