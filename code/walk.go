package code

import "fugue/api"

// walk goes through a program in the order of its bytes and throws the first violation. What must hold is asked in one place, whether the program's numbers come from bytes, go to bytes, or only stand there.
type walk struct {
	number    func(place *int, at, size int) // between a place and the bytes at an offset
	at        int                            // where the next thing begins
	rows      [operations]row
	globals   int
	funcs     []api.Func // with their heads; the code is of no matter here
	locations int        // so far
	function  api.Func   // which is gone through: a copy, so that nothing handed in is written to
	length    int        // how many instructions that has
	instr     api.Instr  // which is gone through: likewise
	count     int        // how many things the list has that is gone through
}

func newWalk(number func(place *int, at, size int)) *walk {
	return &walk{number: number, at: len(magic), rows: makeRows(), locations: 1}
}

// over goes through a program whose numbers stand in their places.
func (w *walk) over(p api.Program) {
	w.globals, w.count = p.Globals, len(p.Funcs)
	w.askGlobals()
	w.askFunctions()
	for _, f := range p.Funcs {
		w.function, w.length = f, len(f.Code)
		w.askHead()
	}
	w.funcs = p.Funcs
	for _, f := range p.Funcs {
		w.function, w.length = f, len(f.Code)
		for i, x := range f.Code {
			w.instr = x
			w.askInstr(i)
		}
	}
}

// through goes through bytes and gives the program that they are. Lists are made only as the bytes come to them, so that few bytes cannot ask for much memory.
func (w *walk) through(r reader) api.Program {
	r.begins()
	w.askGlobals()
	w.askFunctions()
	p := api.Program{Globals: w.globals}
	var lengths []int
	for range w.count {
		w.askHead()
		p.Funcs = append(p.Funcs, w.function)
		lengths = append(lengths, w.length)
	}
	w.funcs = p.Funcs
	for i := range p.Funcs {
		p.Funcs[i].Code = w.readCode(p.Funcs[i], lengths[i])
	}
	must(w.at == len(r.bytes), api.ErrTrail, w.at)
	return p
}

func (w *walk) readCode(f api.Func, length int) []api.Instr {
	w.function, w.length = f, length
	instrs := make([]api.Instr, length)
	for i := range instrs {
		w.instr = api.Instr{}
		w.askInstr(i)
		instrs[i] = w.instr
	}
	return instrs
}

// next brings the next number to its place, or from there, and gives the offset at which it begins.
func (w *walk) next(place *int, size int) int {
	at := w.at
	w.number(place, at, size)
	w.at += size
	return at
}

// locate counts locations.
func (w *walk) locate(n, at int) {
	w.locations += n
	must(w.locations <= api.MaxLocs, api.ErrTooLarge, at)
}

func (w *walk) askGlobals() {
	at := w.next(&w.globals, 1)
	must(within(w.globals, 0, api.MaxGlobals), api.ErrGlobal, at)
}

func (w *walk) askFunctions() {
	at := w.next(&w.count, 2)
	must(within(w.count, 1, api.MaxFuncs), api.ErrHead, at)
}

// askHead takes a head as one thing: it is asked only when all of it is there, and whatever is wrong with it is told at its beginning.
func (w *walk) askHead() {
	f := &w.function
	at := w.next(&f.Params, 1)
	w.next(&f.Results, 1)
	w.next(&f.Vars, 1)
	w.next(&w.length, 2)
	must(within(f.Vars, 0, api.MaxVars), api.ErrHead, at)
	must(within(f.Params, 0, min(api.MaxParams, f.Vars)), api.ErrHead, at)
	must(within(f.Results, 0, api.MaxResults), api.ErrHead, at)
	must(w.length <= api.MaxCode, api.ErrHead, at)
	must(w.length > 0, api.ErrEnd, at)
	w.locate(f.Vars, at)
}

// askInstr goes through the function's instruction number i: its operation, then its things in the one order that they have in all operations.
func (w *walk) askInstr(i int) {
	x := &w.instr
	at := w.next(&x.Op, 1)
	must(within(x.Op, 1, operations-1), api.ErrOp, at)
	r := &w.rows[x.Op]
	must(r.namesAll(x), api.ErrArg, at)
	must(r.ends || i < w.length-1, api.ErrEnd, at)
	if r.makes {
		w.locate(1, at)
	}
	if r.r != nil {
		r.r(w, &x.R)
	}
	if r.s != nil {
		r.s(w, &x.S)
	}
	if r.t != nil {
		r.t(w, &x.T)
	}
	if r.n != nil {
		r.n(w, &x.N)
	}
	if r.args != nil {
		r.args(w, &x.Args)
	}
	if r.rets != nil {
		r.rets(w, &x.Rets)
	}
}

func within(n, least, most int) bool { return least <= n && n <= most }
