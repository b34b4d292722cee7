package front

import "fugue/api"

const (
	mostRecords   = 100
	mostFuncs     = api.MaxFuncs / 64
	mostTokens    = 500 // of a function
	mostOpen      = 32  // of ( { * one in the other
	mostVariables = 64  // of a function
)

// parser makes a source's tree of its tokens; it gives up at the first one that cannot stand where it does.
type parser struct {
	scanner
	next  token // not taken yet
	taken int   // tokens of the declaration so far
	open  int   // how many of ( { * are not over
	made  *source
	fn    *fn // that is being made
}

func parsed(text string) *source {
	p := &parser{scanner: scanner{text, 1}, made: &source{}}
	p.next = p.token()
	p.source()
	return p.made
}

// must gives up at the next token, unless something holds.
func (p *parser) must(holds bool) { must(holds, api.ErrSource, p.next.line) }

func (p *parser) is(kind string) bool { return p.next.kind == kind }

func (p *parser) take(kind string) token {
	// Only a function can come to so many: records and globals are over sooner.
	p.must(p.is(kind) && p.taken < mostTokens)
	t := p.next
	p.taken++
	p.next = p.token()
	return t
}

func (p *parser) takeIf(kind string) bool {
	if !p.is(kind) {
		return false
	}
	p.take(kind)
	return true
}

// enter takes what opens, and stands open until leave.
func (p *parser) enter(kind string) token {
	p.must(p.open < mostOpen)
	p.open++
	return p.take(kind)
}

func (p *parser) leave(kind string) {
	p.take(kind)
	p.open--
}

// list: one thing at least, and others behind commas.
func (p *parser) list(one func()) {
	one()
	for p.takeIf(",") {
		one()
	}
}

func (p *parser) source() {
	for !p.is(theEnd) {
		p.taken = 0
		switch p.next.kind {
		case "record":
			p.record()
		case "global":
			p.global()
		default:
			p.function()
		}
	}
	p.made.end = p.next.line
}

func (p *parser) record() {
	p.must(len(p.made.records) < mostRecords)
	p.take("record")
	r := &record{word: p.take(aName).word}
	p.enter("{")
	for !p.is("}") {
		p.must(len(r.fields) < api.MaxFields)
		r.fields = append(r.fields, p.named())
		p.take(";")
	}
	p.leave("}")
	p.made.records = append(p.made.records, r)
	p.made.all = append(p.made.all, r)
}

func (p *parser) global() {
	p.must(len(p.made.globals) < api.MaxGlobals)
	p.take("global")
	g := &global{named: p.named(), at: len(p.made.globals)}
	p.take(";")
	p.made.globals = append(p.made.globals, g)
	p.made.all = append(p.made.all, g)
}

func (p *parser) function() {
	p.must(len(p.made.fns) < mostFuncs)
	p.take("fn")
	f := &fn{word: p.take(aName).word, at: len(p.made.fns)}
	p.fn = f
	p.enter("(")
	if !p.is(")") {
		p.list(p.param)
	}
	p.leave(")")
	if !p.is("{") {
		p.list(p.result)
	}
	f.vars = len(f.params)
	f.body = p.block()
	p.made.fns = append(p.made.fns, f)
	p.made.all = append(p.made.all, f)
}

func (p *parser) param() {
	p.must(len(p.fn.params) < api.MaxParams)
	p.fn.params = append(p.fn.params, p.named())
}

func (p *parser) result() {
	p.must(len(p.fn.results) < api.MaxResults)
	p.fn.results = append(p.fn.results, p.typeOf())
}

// named: a name and its type.
func (p *parser) named() named {
	return named{p.take(aName).word, p.typeOf()}
}

// typeOf: a type: no record by itself.
func (p *parser) typeOf() written {
	p.must(!p.is(aName))
	return p.target()
}

// target: what a pointer may point to.
func (p *parser) target() written {
	if p.is("*") {
		p.enter("*")
		t := p.target()
		p.open--
		return written{t.kind.pointer(), t.line}
	}
	p.must(p.is(aName) || p.is(intName))
	t := p.take(p.next.kind)
	return written{kind{of: t.text}, t.line}
}
