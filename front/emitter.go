package front

import "fugue/api"

// emitter lays the code of one function. Its variables are those of the source, then one that is always nil, then those that hold what expressions come to.
type emitter struct {
	code  []api.Instr
	none  int // the variable that is always nil
	first int // of those behind it
	vars  int // how many there are so far
}

// emitted: the program of a source that was checked.
func emitted(s *source) api.Program {
	p := api.Program{Globals: len(s.globals)}
	for _, f := range s.fns {
		e := &emitter{none: f.vars, first: f.vars + 1, vars: f.vars + 1}
		e.statements(f.body.of)
		e.finish(f)
		p.Funcs = append(p.Funcs, api.Func{Params: len(f.params), Results: len(f.results), Vars: e.vars, Code: e.code})
	}
	return p
}

func (e *emitter) add(i api.Instr) { e.code = append(e.code, i) }

// room: so many variables from one on, all of which are there from now on.
func (e *emitter) room(from, many int) []int {
	var l []int
	for v := from; v < from+many; v++ {
		l = append(l, v)
	}
	e.vars = max(e.vars, from+many)
	return l
}

// finish: what a function does that comes to its end.
func (e *emitter) finish(f *fn) {
	l := e.room(e.first, len(f.results))
	for i, r := range f.results {
		if r.kind.isInt() {
			e.add(api.Instr{Op: api.Int, R: l[i]})
		} else {
			e.add(api.Instr{Op: api.Null, R: l[i]})
		}
	}
	e.add(api.Instr{Op: api.Return, Args: l})
}

func (e *emitter) statements(l []node) {
	for _, n := range l {
		e.statement(n)
	}
}

// statement: its expressions, and then what it does with what they come to.
func (e *emitter) statement(n node) {
	start, at := len(e.code), e.first
	for i, part := range n.parts() {
		e.value(part, at+i)
	}
	switch n := n.(type) {
	case *variable:
		e.set(n.slot, at)
	case *show:
		e.add(api.Instr{Op: api.Print, S: at})
	case *giveBack:
		e.add(api.Instr{Op: api.Return, Args: e.room(at, len(n.of))})
	case *choice:
		e.choice(n, at)
	case *loop:
		e.loop(n, start, at)
	case *several:
		for i, u := range n.to {
			e.set(u.slot, at+i)
		}
	case *setName:
		e.set(n.to.slot, at)
	case *setField:
		e.add(api.Instr{Op: api.Store, R: at, S: at + 1, N: n.at})
	case *setBehind:
		e.add(api.Instr{Op: api.Store, R: at, S: at + 1})
	}
}

func (e *emitter) set(to slot, from int) {
	if to.global {
		e.add(api.Instr{Op: api.Set, S: from, N: to.at})
	} else {
		e.add(api.Instr{Op: api.Copy, R: to.at, S: from})
	}
}

func (e *emitter) choice(c *choice, at int) {
	skip := e.unless(at)
	e.statements(c.then.of)
	if c.other != nil {
		end := e.jump(api.Instr{Op: api.Jump})
		e.land(skip)
		e.statements(c.other.of)
		skip = end
	}
	e.land(skip)
}

func (e *emitter) loop(l *loop, start, at int) {
	end := e.unless(at)
	e.statements(l.body.of)
	e.add(api.Instr{Op: api.Jump, N: start})
	e.land(end)
}

// unless: a jump for when a variable is 0 or nil; where it lands is not said yet.
func (e *emitter) unless(v int) int {
	on := e.jump(api.Instr{Op: api.If, S: v})
	away := e.jump(api.Instr{Op: api.Jump})
	e.land(on)
	return away
}

// jump: the place of a jump, of which is not said yet where it lands.
func (e *emitter) jump(i api.Instr) int {
	e.add(i)
	return len(e.code) - 1
}

// land: a jump lands where the code goes on.
func (e *emitter) land(at int) { e.code[at].N = len(e.code) }
