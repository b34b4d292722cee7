package text

import "fugue/api"

// reader makes a program of lines, one after the other.
type reader struct {
	shapes  []shape
	tokens  []string // of the line that was taken last: their room is used again
	said    line     // by that line
	begun   bool     // the line of the globals was there
	program api.Program
}

func newReader() *reader { return &reader{shapes: makeShapes()} }

// take goes on with a line; false: it cannot stand there.
func (r *reader) take(bytes string) bool {
	var right bool
	r.tokens, right = tokensOf(bytes, r.tokens[:0])
	if !right {
		return false
	}
	if len(r.tokens) == 0 {
		return true
	}
	for i := range r.shapes {
		s := &r.shapes[i]
		if r.mayStand(s.op) && s.read(r.tokens, &r.said) {
			r.add(s.op)
			return true
		}
	}
	return false
}

// mayStand: may a line of this kind follow those that were taken?
func (r *reader) mayStand(op int) bool {
	switch op {
	case globalsLine:
		return !r.begun
	case headLine:
		return r.begun
	}
	return len(r.program.Funcs) > 0
}

// add lays what the line said into the program.
func (r *reader) add(op int) {
	switch op {
	case globalsLine:
		r.begun = true
		r.program.Globals = r.said.globals
	case headLine:
		r.program.Funcs = append(r.program.Funcs, r.said.head)
	default:
		r.said.instr.Op = op
		f := &r.program.Funcs[len(r.program.Funcs)-1]
		f.Code = append(f.Code, r.said.instr)
	}
}
