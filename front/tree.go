package front

import "strings"

// word: as it stands in the source, and its line.
type word struct {
	text string
	line int
}

// kind: a type: so many stars ahead of int or of a record's name.
type kind struct {
	stars int
	of    string
}

const intName = "int"

func (k kind) isInt() bool { return k == kind{of: intName} }

func (k kind) isPointer() bool { return k.stars > 0 }

func (k kind) toRecord() bool { return k.stars == 1 && k.of != intName }

// behind: what a pointer points to.
func (k kind) behind() kind { return kind{k.stars - 1, k.of} }

func (k kind) pointer() kind { return kind{k.stars + 1, k.of} }

func (k kind) text() string { return strings.Repeat("*", k.stars) + k.of }

// written: a type as it stands in the source, and the line of its last token.
type written struct {
	kind kind
	line int
}

// named: a field, a parameter.
type named struct {
	word
	written written
}

// slot: a variable of the function, or a global.
type slot struct {
	global bool
	at     int
	kind   kind
}

// use: a variable or a global by its name.
type use struct {
	word
	slot slot // which it is: the checker says
}

// node: a statement or an expression, or a block of statements.
type node interface {
	place() int    // the line of its first token
	parts() []node // what is done ahead of the node itself, in its order
}

// base is what all nodes have.
type base struct {
	first int
	of    []node
}

func (b *base) place() int { return b.first }

func (b *base) parts() []node { return b.of }

// The expressions. What the checker finds stands in fields behind those of the source.
type (
	number struct {
		base
		n int
	}
	name struct {
		base
		use use
	}
	address struct { // &
		base
		use use
	}
	made struct { // new
		base
		written written
		fields  int
	}
	null struct {
		base
		written written
	}
	behind struct { // *
		base
		kind kind
	}
	field struct {
		base
		word word
		at   int
		kind kind
	}
	binary struct { // + < ==
		base
		sign string
	}
	call struct {
		base
		word word
		to   *fn
	}
	bracket struct{ base }
)

// The statements. The parts of one that sets a place are the pointer that it goes by and the value.
type (
	variable struct {
		base
		named named
		slot  slot
	}
	show struct { // print
		base
		kind kind
	}
	giveBack struct{ base } // return
	choice   struct {       // if
		base
		then, other *block // no other: nil
	}
	loop struct { // while
		base
		body *block
	}
	plainCall struct{ base }
	several   struct { // x, y = f()
		base
		to []use
	}
	setName struct {
		base
		to use
	}
	setField struct {
		base
		word word
		at   int
	}
	setBehind struct{ base }
)

// block: its parts are its statements.
type block struct{ base }

// The declarations; globals and functions have numbers.
type (
	record struct {
		word
		fields []named
	}
	global struct {
		named
		at int
	}
	fn struct {
		word
		at      int
		params  []named
		results []written
		vars    int // how many, the parameters among them
		body    *block
	}
)

// source: what the parser makes, and the checker fills.
type source struct {
	all     []any // records, globals and functions in their order
	records []*record
	globals []*global
	fns     []*fn
	end     int // the line of its end
}
