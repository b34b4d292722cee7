package front

import "fugue/api"

// checker goes through the blocks of one function, gives up at the first thing that is not as it is wanted, and fills in what the names stand for.
type checker struct {
	*names
	fn        *fn
	variables []*local
}

// local: a variable of the function that was met; behind its block it is seen no more.
type local struct {
	text string
	slot slot
	seen bool
}

// checked: the source, of which everything is as it is wanted.
func checked(s *source) *source {
	n := namesOf(s)
	n.heads(s)
	for _, f := range s.fns {
		c := &checker{names: n, fn: f}
		for i, p := range f.params {
			c.declare(p, slot{at: i, kind: p.written.kind})
		}
		c.statements(f.body.of)
	}
	return s
}

func (c *checker) declare(v named, s slot) {
	c.variables = append(c.variables, &local{v.text, s, true})
}

// local: the variable of a name that was met; nil: none.
func (c *checker) local(text string) *local {
	for _, v := range c.variables {
		if v.text == text {
			return v
		}
	}
	return nil
}

// find fills in what a name stands for here.
func (c *checker) find(u *use) kind {
	if v := c.local(u.text); v != nil && v.seen {
		u.slot = v.slot
		return u.slot.kind
	}
	g := c.globals[u.text]
	must(g != nil, api.ErrName, u.line)
	u.slot = slot{true, g.at, g.written.kind}
	return u.slot.kind
}

func (c *checker) block(b *block) {
	first := len(c.variables)
	c.statements(b.of)
	for _, v := range c.variables[first:] {
		v.seen = false
	}
}

func (c *checker) statements(l []node) {
	for _, n := range l {
		c.statement(n)
	}
}

func (c *checker) statement(n node) {
	switch n := n.(type) {
	case *variable:
		c.variable(n)
	case *show:
		n.kind = c.expr(n.of[0])
	case *giveBack:
		c.giveBack(n)
	case *choice:
		c.expr(n.of[0])
		c.block(n.then)
		if n.other != nil {
			c.block(n.other)
		}
	case *loop:
		c.expr(n.of[0])
		c.block(n.body)
	case *plainCall:
		to := n.of[0].(*call)
		c.callee(to)
		c.arguments(to)
	case *several:
		c.several(n)
	case *setName:
		k := c.find(&n.to)
		c.value(n.of[0], k)
	case *setField:
		f := c.field(n.of[0], n.word)
		n.at = f.at
		c.value(n.of[1], f.kind)
	case *setBehind:
		k := c.behind(n.of[0], n.place())
		c.value(n.of[1], k)
	}
}

// value: an expression that is to be of a type.
func (c *checker) value(n node, k kind) {
	must(c.expr(n) == k, api.ErrType, n.place())
}

func (c *checker) variable(v *variable) {
	must(c.local(v.named.text) == nil && c.globals[v.named.text] == nil, api.ErrName, v.named.line)
	c.known(v.named.written)
	c.value(v.of[0], v.slot.kind)
	c.declare(v.named, v.slot)
}

func (c *checker) giveBack(g *giveBack) {
	must(len(g.of) == len(c.fn.results), api.ErrType, g.place())
	for i, k := range c.exprs(g.of) {
		must(k == c.fn.results[i].kind, api.ErrType, g.of[i].place())
	}
}

func (c *checker) several(s *several) {
	for i := range s.to {
		c.find(&s.to[i])
	}
	to := s.of[0].(*call)
	results := c.callee(to).results
	must(len(results) == len(s.to), api.ErrType, to.word.line)
	c.arguments(to)
	for i, r := range results {
		must(r.kind == s.to[i].slot.kind, api.ErrType, s.to[i].line)
	}
}
