package front

func (p *parser) expr() node {
	left := p.sum()
	if p.is("<") || p.is("==") {
		sign := p.take(p.next.kind).text
		return pair(sign, left, p.sum())
	}
	return left
}

func (p *parser) sum() node {
	left := p.unary()
	for p.takeIf("+") {
		left = pair("+", left, p.unary())
	}
	return left
}

func pair(sign string, left, right node) node {
	return &binary{base{left.place(), []node{left, right}}, sign}
}

func (p *parser) unary() node {
	switch p.next.kind {
	case "*":
		return p.behind()
	case "&":
		return &address{base{first: p.take("&").line}, use{word: p.take(aName).word}}
	case "new":
		return &made{base: base{first: p.take("new").line}, written: p.target()}
	case "null":
		return &null{base{first: p.take("null").line}, p.typeOf()}
	}
	n := p.primary()
	for p.takeIf(".") {
		n = fieldOf(n, p.take(aName).word)
	}
	return n
}

func (p *parser) behind() node {
	star := p.enter("*")
	b := &behind{base: base{star.line, []node{p.unary()}}}
	p.open--
	return b
}

func fieldOf(n node, word word) node {
	return &field{base: base{n.place(), []node{n}}, word: word}
}

func (p *parser) primary() node {
	switch p.next.kind {
	case aNumber:
		t := p.take(aNumber)
		return &number{base{first: t.line}, t.number}
	case "(":
		b := &bracket{base{p.enter("(").line, []node{p.expr()}}}
		p.leave(")")
		return b
	}
	w := p.take(aName).word
	if p.is("(") {
		return p.call(w)
	}
	return &name{base{first: w.line}, use{word: w}}
}

func (p *parser) call(to word) node {
	c := &call{base: base{first: to.line}, word: to}
	p.enter("(")
	if !p.is(")") {
		c.of = p.exprs()
	}
	p.leave(")")
	return c
}

func (p *parser) exprs() []node {
	var l []node
	p.list(func() { l = append(l, p.expr()) })
	return l
}
