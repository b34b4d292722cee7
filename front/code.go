package front

import "fugue/api"

// value: an expression that comes to be in a variable; those behind it hold its parts. (A call has all its results in that one and behind it.)
func (e *emitter) value(n node, to int) {
	e.room(to, 1)
	for i, part := range n.parts() {
		e.value(part, to+i)
	}
	switch n := n.(type) {
	case *number:
		e.add(api.Instr{Op: api.Int, R: to, N: n.n})
	case *name:
		e.get(n.use.slot, to)
	case *address:
		e.add(api.Instr{Op: api.Addr, R: to, S: n.use.slot.at})
	case *made:
		e.add(api.Instr{Op: api.New, R: to, N: n.fields})
	case *null:
		e.add(api.Instr{Op: api.Null, R: to})
	case *behind:
		e.load(to, 0, n.kind)
	case *field:
		e.load(to, n.at, n.kind)
	case *binary:
		e.add(api.Instr{Op: operation(n.sign), R: to, S: to, T: to + 1})
	case *call:
		e.add(api.Instr{Op: api.Call, N: n.to.at, Args: e.room(to, len(n.of)), Rets: e.room(to, len(n.to.results))})
	}
}

func operation(sign string) int {
	switch sign {
	case "+":
		return api.Add
	case "<":
		return api.Less
	}
	return api.Same
}

func (e *emitter) get(from slot, to int) {
	if !from.global {
		e.add(api.Instr{Op: api.Copy, R: to, S: from.at})
		return
	}
	e.add(api.Instr{Op: api.Get, R: to, N: from.at})
	e.mend(to, from.kind)
}

// load: a field of what the variable points to comes to be in it.
func (e *emitter) load(to, at int, k kind) {
	e.add(api.Instr{Op: api.Load, R: to, S: to, N: at})
	e.mend(to, k)
}

// mend: globals and new cells begin as nil, which an int may never be seen to be: in a sum nil counts as 0.
func (e *emitter) mend(v int, k kind) {
	if k.isInt() {
		e.add(api.Instr{Op: api.Add, R: v, S: v, T: e.none})
	}
}
