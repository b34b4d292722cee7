package front_test

import (
	"math/rand"
	"strings"
)

// A source as these tests make it, and as they write it. Types are texts, as they are written.
type (
	expr struct {
		op   string // number name & new null * . + < == call
		word string // the number, the name, the type, the field, the function
		sub  []*expr

		place, at, word1 int // which tokens: its first one; its own; that of its name or its type
	}
	stmt struct {
		op          string // var print return if while call several name . *
		word, kind  string
		names       []string
		sub         []*expr
		then, other []*stmt
		hasOther    bool

		at, kindAt int
		namesAt    []int
	}
	pair struct {
		name, kind string

		at, kindAt int
	}
	recordOf struct {
		name   string
		fields []*pair

		at int
	}
	globalOf struct{ pair }
	fnOf     struct {
		name    string
		params  []*pair
		results []*pair // without names
		body    []*stmt

		at, tokens int
	}
	tree struct {
		all []any

		end int
	}
)

func (t *tree) records() []*recordOf { return only[*recordOf](t.all) }

func (t *tree) globals() []*globalOf { return only[*globalOf](t.all) }

func (t *tree) fns() []*fnOf { return only[*fnOf](t.all) }

func only[T any](l []any) []T {
	var out []T
	for _, x := range l {
		if y, is := x.(T); is {
			out = append(out, y)
		}
	}
	return out
}

// writer lays a tree's tokens, and notes in it which ones they are. With chance there are brackets that are not needed.
type writer struct {
	tokens []string
	chance *rand.Rand
}

func (w *writer) put(tokens ...string) int {
	w.tokens = append(w.tokens, tokens...)
	return len(w.tokens) - 1
}

func (w *writer) kind(k string) int {
	for strings.HasPrefix(k, "*") {
		w.put("*")
		k = k[1:]
	}
	return w.put(k)
}

func (w *writer) pair(p *pair) {
	if p.name != "" {
		p.at = w.put(p.name)
	}
	p.kindAt = w.kind(p.kind)
}

// between: all of them, with a token between.
func between[T any](w *writer, l []T, sign string, one func(T)) {
	for i, x := range l {
		if i > 0 {
			w.put(sign)
		}
		one(x)
	}
}

func (w *writer) tree(t *tree) {
	for _, d := range t.all {
		switch d := d.(type) {
		case *recordOf:
			w.put("record")
			d.at = w.put(d.name)
			w.put("{")
			for _, f := range d.fields {
				w.pair(f)
				w.put(";")
			}
			w.put("}")
		case *globalOf:
			w.put("global")
			w.pair(&d.pair)
			w.put(";")
		case *fnOf:
			w.fn(d)
		}
	}
	t.end = len(w.tokens)
}

func (w *writer) fn(f *fnOf) {
	first := len(w.tokens)
	w.put("fn")
	f.at = w.put(f.name)
	w.put("(")
	between(w, f.params, ",", w.pair)
	w.put(")")
	between(w, f.results, ",", w.pair)
	w.block(f.body)
	f.tokens = len(w.tokens) - first
}

func (w *writer) block(l []*stmt) {
	w.put("{")
	for _, s := range l {
		w.stmt(s)
	}
	w.put("}")
}

func (w *writer) stmt(s *stmt) {
	switch s.op {
	case "var":
		w.put("var")
		s.at = w.put(s.word)
		s.kindAt = w.kind(s.kind)
		w.put("=")
		w.expr(s.sub[0], 0)
	case "print":
		w.put("print")
		w.expr(s.sub[0], 0)
	case "return":
		s.at = w.put("return")
		w.exprs(s.sub)
	case "if", "while":
		w.put(s.op)
		w.expr(s.sub[0], 0)
		w.block(s.then)
		if s.hasOther {
			w.put("else")
			w.block(s.other)
		}
		return
	case "call":
		w.bare(s.sub[0])
	case "several":
		s.namesAt = nil
		between(w, s.names, ",", func(n string) { s.namesAt = append(s.namesAt, w.put(n)) })
		w.put("=")
		w.bare(s.sub[0])
	case "name":
		s.at = w.put(s.word)
		w.put("=")
		w.expr(s.sub[0], 0)
	case ".":
		w.expr(s.sub[0], 3)
		w.put(".")
		s.at = w.put(s.word)
		w.put("=")
		w.expr(s.sub[1], 0)
	case "*":
		s.at = w.put("*")
		w.expr(s.sub[0], 2)
		w.put("=")
		w.expr(s.sub[1], 0)
	}
	w.put(";")
}

func (w *writer) exprs(l []*expr) { between(w, l, ",", func(e *expr) { w.expr(e, 0) }) }

// strength: how tightly it holds together: 3 where a field may be taken of it, 2 what a star may stand ahead of, 1 a sum.
func (e *expr) strength() int {
	switch e.op {
	case "<", "==":
		return 0
	case "+":
		return 1
	case "*", "&", "new", "null":
		return 2
	}
	return 3
}

func (w *writer) expr(e *expr, least int) {
	if e.strength() < least || w.chance != nil && w.chance.Intn(5) == 0 {
		first := w.put("(")
		w.expr(e, 0)
		w.put(")")
		e.place = first
		return
	}
	e.place = len(w.tokens)
	w.bare(e)
}

func (w *writer) bare(e *expr) {
	e.place = len(w.tokens)
	switch e.op {
	case "number", "name":
		e.at = w.put(e.word)
	case "&":
		e.at = w.put("&")
		e.word1 = w.put(e.word)
	case "new", "null":
		e.at = w.put(e.op)
		e.word1 = w.kind(e.word)
	case "*":
		e.at = w.put("*")
		w.expr(e.sub[0], 2)
	case ".":
		w.expr(e.sub[0], 3)
		w.put(".")
		e.at = w.put(e.word)
	case "+":
		w.expr(e.sub[0], 1)
		w.put("+")
		w.expr(e.sub[1], 2)
	case "<", "==":
		w.expr(e.sub[0], 1)
		w.put(e.op)
		w.expr(e.sub[1], 1)
	case "call":
		e.at = w.put(e.word)
		w.put("(")
		w.exprs(e.sub)
		w.put(")")
	}
}

// tokensOfTree: with just the brackets that are needed, or with others too.
func tokensOfTree(t *tree, chance *rand.Rand) []string {
	w := &writer{chance: chance}
	w.tree(t)
	return w.tokens
}

// laidOut: tokens as Print writes them: line by line, with blanks as the chapter says.
func laidOut(tokens []string) string {
	var b strings.Builder
	depth, last := 0, ""
	for i, t := range tokens {
		if t == "}" {
			depth--
		}
		switch {
		case last == "" || last == "{" || last == ";" || last == "}" && t != "else":
			b.WriteString(strings.Repeat("  ", depth))
		case strings.Contains(",;.)", t) || strings.Contains(".(&*", last):
		case t == "(" && i > 0 && kindOf(last) == "NAME":
		default:
			b.WriteString(" ")
		}
		b.WriteString(t)
		next := ""
		if i+1 < len(tokens) {
			next = tokens[i+1]
		}
		if t == "{" || t == ";" || t == "}" && next != "else" {
			b.WriteString("\n")
		}
		if t == "{" {
			depth++
		}
		last = t
	}
	return b.String()
}

// scattered: tokens with blanks and comments of all kinds between, where there must be some, and where there need not.
func scattered(r *rand.Rand, tokens []string) string {
	var b strings.Builder
	for i, t := range tokens {
		if i > 0 {
			b.WriteString(pick(r, "", "", "", " ", " ", "\n", "\t", "\r\n", " # = ;\n", "#\n", "  \n\n "))
			if needed(tokens[i-1], t) {
				b.WriteString(pick(r, " ", "\n", "#é\n", "\t"))
			}
		}
		b.WriteString(t)
	}
	b.WriteString(pick(r, "", "\n", " ", "# the end", "#\n#"))
	return b.String()
}

// needed: would the two be read otherwise without a blank between?
func needed(a, b string) bool {
	last, first := a[len(a)-1], b[0]
	isWord := func(c byte) bool { return c == '_' || 'a' <= c && c <= 'z' || '0' <= c && c <= '9' }
	return isWord(last) && isWord(first) || last == '=' && first == '='
}

func pick[T any](r *rand.Rand, l ...T) T { return l[r.Intn(len(l))] }
