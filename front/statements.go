package front

func (p *parser) block() *block {
	b := &block{base{first: p.enter("{").line}}
	for !p.is("}") {
		b.of = append(b.of, p.statement())
	}
	p.leave("}")
	return b
}

func (p *parser) statement() node {
	switch p.next.kind {
	case "if":
		return p.choice()
	case "while":
		return p.loop()
	}
	n := p.line()
	p.take(";")
	return n
}

// line: a statement that a ; ends.
func (p *parser) line() node {
	switch p.next.kind {
	case "var":
		return p.variable()
	case "print":
		return &show{base: base{p.take("print").line, []node{p.expr()}}}
	case "return":
		return p.giveBack()
	case "*":
		return p.setBehind()
	}
	return p.callOrSet()
}

func (p *parser) choice() node {
	c := &choice{base: base{p.take("if").line, []node{p.expr()}}}
	c.then = p.block()
	if p.takeIf("else") {
		c.other = p.block()
	}
	return c
}

func (p *parser) loop() node {
	l := &loop{base: base{p.take("while").line, []node{p.expr()}}}
	l.body = p.block()
	return l
}

func (p *parser) variable() node {
	p.must(p.fn.vars < mostVariables)
	first := p.take("var").line
	v := &variable{named: p.named()}
	v.slot = slot{at: p.fn.vars, kind: v.named.written.kind}
	p.fn.vars++
	p.take("=")
	v.base = base{first, []node{p.expr()}}
	return v
}

func (p *parser) giveBack() node {
	g := &giveBack{base{first: p.take("return").line}}
	if !p.is(";") {
		g.of = p.exprs()
	}
	return g
}

func (p *parser) setBehind() node {
	star := p.enter("*")
	to := p.unary()
	p.open--
	p.take("=")
	return &setBehind{base{star.line, []node{to, p.expr()}}}
}

// callOrSet: a statement that begins as a place does. What it is, is told by what follows the first of it.
func (p *parser) callOrSet() node {
	first := p.primary()
	at := base{first: first.place()}
	switch first := first.(type) {
	case *name:
		if p.is(",") {
			return p.several(at, first.use)
		}
		if p.takeIf("=") {
			at.of = []node{p.expr()}
			return &setName{at, first.use}
		}
	case *call:
		if p.is(";") {
			at.of = []node{first}
			return &plainCall{at}
		}
	}
	return p.setField(at, first)
}

// several: the names behind the first one, and the call that they are set to.
func (p *parser) several(at base, first use) node {
	s := &several{base: at, to: []use{first}}
	for p.takeIf(",") {
		s.to = append(s.to, use{word: p.take(aName).word})
	}
	p.take("=")
	s.of = []node{p.call(p.take(aName).word)}
	return s
}

// setField: what is set is the last field of all.
func (p *parser) setField(at base, to node) node {
	for {
		p.take(".")
		last := p.take(aName).word
		if p.takeIf("=") {
			at.of = []node{to, p.expr()}
			return &setField{base: at, word: last}
		}
		to = fieldOf(to, last)
	}
}
