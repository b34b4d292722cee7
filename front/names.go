package front

import "fugue/api"

// names: what the names of a source's records, globals and functions stand for; of several of one name the first.
type names struct {
	records map[string]*record
	globals map[string]*global
	fns     map[string]*fn
}

func namesOf(s *source) *names {
	n := &names{map[string]*record{}, map[string]*global{}, map[string]*fn{}}
	for _, r := range s.records {
		putFirst(n.records, r.text, r)
	}
	for _, g := range s.globals {
		putFirst(n.globals, g.text, g)
	}
	for _, f := range s.fns {
		putFirst(n.fns, f.text, f)
	}
	return n
}

func putFirst[T any](to map[string]*T, text string, x *T) {
	if to[text] == nil {
		to[text] = x
	}
}

// heads gives up at the first declaration whose name, fields or head are not as they must be.
func (n *names) heads(s *source) {
	for _, d := range s.all {
		switch d := d.(type) {
		case *record:
			must(n.records[d.text] == d, api.ErrName, d.line)
			n.fields(d.fields)
		case *global:
			must(n.globals[d.text] == d, api.ErrName, d.line)
			n.known(d.written)
		case *fn:
			must(n.fns[d.text] == d, api.ErrName, d.line)
			n.head(d)
		}
	}
	must(len(s.fns) > 0, api.ErrName, s.end)
	for _, p := range s.fns[0].params {
		must(p.written.kind.isInt(), api.ErrType, s.fns[0].line)
	}
}

func (n *names) fields(fields []named) {
	for i, f := range fields {
		must(indexOf(fields[:i], f.text) < 0, api.ErrName, f.line)
		n.known(f.written)
	}
}

func (n *names) head(f *fn) {
	for i, p := range f.params {
		must(n.globals[p.text] == nil && indexOf(f.params[:i], p.text) < 0, api.ErrName, p.line)
		n.known(p.written)
	}
	for _, r := range f.results {
		n.known(r)
	}
}

// known gives up unless there is the record that a type names, if it names one.
func (n *names) known(w written) {
	must(w.kind.of == intName || n.records[w.kind.of] != nil, api.ErrName, w.line)
}

// indexOf: where that name stands; -1: nowhere.
func indexOf(l []named, text string) int {
	for i, x := range l {
		if x.text == text {
			return i
		}
	}
	return -1
}
