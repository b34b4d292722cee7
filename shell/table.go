package shell

import "slices"

// row: of the table of the lines.
type row struct {
	word   string // the first one of the line
	texts  bool   // a text follows, up to its end
	begins bool   // it makes a program, so it needs none
	form   func(words []string) (order, bool)
	does   func(s *session, o order)
}

type table []row

func newTable() table {
	return table{
		{word: "program", texts: true, begins: true, form: alone, does: (*session).program},
		{word: "change", texts: true, form: alone, does: (*session).change},
		{word: "load", begins: true, form: loadForm, does: (*session).load},
		{word: "show", form: alone, does: (*session).show},
		{word: "bytes", form: alone, does: (*session).bytes},
		{word: "analyze", form: analyzeForm, does: (*session).analyze},
		{word: "heap", form: alone, does: (*session).heap},
		{word: "sums", form: alone, does: (*session).sums},
		{word: "run", form: runForm, does: (*session).run},
		{word: "inline", form: inlineForm, does: (*session).inline},
		{word: "why", form: whyForm, does: (*session).why},
	}
}

// read: the row of a line's words, and what those behind the first say; false: the line has not its form.
func (t table) read(words []string) (row, order, bool) {
	at := slices.IndexFunc(t, func(r row) bool { return r.word == words[0] })
	if at < 0 {
		return row{}, order{}, false
	}
	o, is := t[at].form(words[1:])
	return t[at], o, is
}
