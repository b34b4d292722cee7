package front

import "strings"

// printer writes a source plainly.
type printer struct {
	text  strings.Builder
	depth int // in how many blocks the line stands
}

func printed(s *source) string {
	p := &printer{}
	for _, d := range s.all {
		switch d := d.(type) {
		case *record:
			p.record(d)
		case *global:
			p.line("global ", textOf(d.named), ";")
		case *fn:
			p.line("fn ", d.text, "(", joined(d.params, textOf), ")", ahead(joined(d.results, written.text)), " {")
			p.inside(d.body.of)
			p.line("}")
		}
	}
	return p.text.String()
}

func (w written) text() string { return w.kind.text() }

// ahead: with a blank ahead, if there is anything.
func ahead(text string) string {
	if text == "" {
		return ""
	}
	return " " + text
}

func textOf(n named) string { return n.text + " " + n.written.text() }

// joined: the texts of all things, with commas between.
func joined[T any](l []T, text func(T) string) string {
	var texts []string
	for _, x := range l {
		texts = append(texts, text(x))
	}
	return strings.Join(texts, ", ")
}

func (p *printer) line(texts ...string) {
	p.text.WriteString(strings.Repeat("  ", p.depth))
	for _, t := range texts {
		p.text.WriteString(t)
	}
	p.text.WriteString("\n")
}

func (p *printer) record(r *record) {
	p.line("record ", r.text, " {")
	for _, f := range r.fields {
		p.line("  ", textOf(f), ";")
	}
	p.line("}")
}

func (p *printer) inside(l []node) {
	p.depth++
	for _, n := range l {
		p.statement(n)
	}
	p.depth--
}
