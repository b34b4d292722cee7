package front

import "strconv"

// How tightly an expression holds together: what stands where more is asked for needs brackets.
const (
	loosely = iota
	asSum
	asUnary
	asPost
)

func (p *printer) statement(n node) {
	switch n := n.(type) {
	case *variable:
		p.line("var ", textOf(n.named), " = ", plain(n.of[0]), ";")
	case *show:
		p.line("print ", plain(n.of[0]), ";")
	case *giveBack:
		p.line("return", ahead(joined(n.of, plain)), ";")
	case *choice:
		p.line("if ", plain(n.of[0]), " {")
		p.inside(n.then.of)
		if n.other != nil {
			p.line("} else {")
			p.inside(n.other.of)
		}
		p.line("}")
	case *loop:
		p.line("while ", plain(n.of[0]), " {")
		p.inside(n.body.of)
		p.line("}")
	case *plainCall:
		p.line(plain(n.of[0]), ";")
	case *several:
		p.line(joined(n.to, func(u use) string { return u.text }), " = ", plain(n.of[0]), ";")
	case *setName:
		p.line(n.to.text, " = ", plain(n.of[0]), ";")
	case *setField:
		p.line(held(n.of[0], asPost), ".", n.word.text, " = ", plain(n.of[1]), ";")
	case *setBehind:
		p.line("*", held(n.of[0], asUnary), " = ", plain(n.of[1]), ";")
	}
}

// plain: an expression's text, where any may stand.
func plain(n node) string { return held(n, loosely) }

// held: its text where it must hold together so tightly: in brackets, if it does not.
func held(n node, tightly int) string {
	for {
		b, is := n.(*bracket)
		if !is {
			break
		}
		n = b.of[0]
	}
	if tightness(n) < tightly {
		return "(" + textIn(n) + ")"
	}
	return textIn(n)
}

func tightness(n node) int {
	switch n := n.(type) {
	case *binary:
		if n.sign == "+" {
			return asSum
		}
		return loosely
	case *address, *made, *null, *behind:
		return asUnary
	}
	return asPost
}

// textIn: the text of what is no bracket.
func textIn(n node) string {
	switch n := n.(type) {
	case *number:
		return strconv.Itoa(n.n)
	case *name:
		return n.use.text
	case *address:
		return "&" + n.use.text
	case *made:
		return "new " + n.written.text()
	case *null:
		return "null " + n.written.text()
	case *behind:
		return "*" + held(n.of[0], asUnary)
	case *field:
		return held(n.of[0], asPost) + "." + n.word.text
	case *call:
		return n.word.text + "(" + joined(n.of, plain) + ")"
	case *binary:
		// A sum goes on to its right, so only there must a sum stand in brackets.
		right := asSum
		if n.sign == "+" {
			right = asUnary
		}
		return held(n.of[0], asSum) + " " + n.sign + " " + held(n.of[1], right)
	}
	return ""
}
