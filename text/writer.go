package text

import "fugue/api"

// writer lays canonical text.
type writer struct {
	shapes []shape
	bytes  []byte
	rest   line // what is not laid yet of the line that is written
}

func (w *writer) program(p api.Program) {
	w.lay(globalsLine, line{globals: p.Globals})
	w.end()
	for _, f := range p.Funcs {
		w.lay(headLine, line{head: f})
		w.end()
		for _, i := range f.Code {
			w.bytes = append(w.bytes, "  "...)
			w.instr(i)
			w.end()
		}
	}
}

func (w *writer) end() { w.bytes = append(w.bytes, '\n') }

// instr lays an instruction; nothing, if it is that of no line.
func (w *writer) instr(i api.Instr) { w.lay(i.Op, line{instr: i}) }

// lay lays a line of the first of the kind's shapes that says all of it.
func (w *writer) lay(op int, said line) {
	begin := len(w.bytes)
	for i := range w.shapes {
		s := &w.shapes[i]
		if s.op != op {
			continue
		}
		w.rest = said
		var ok bool
		if w.bytes, ok = s.write(w.bytes, &w.rest); ok && isBare(w.rest.instr) {
			return
		}
		w.bytes = w.bytes[:begin]
	}
}
