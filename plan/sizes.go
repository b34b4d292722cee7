package plan

import "fugue/api"

// body: what a move of a call brings to its function; addr: the callee takes a variable's address, so that its variables may not become the caller's.
type body struct {
	vars, instrs, news int
	addr               bool
}

func bodiesOf(p api.Program) []body {
	l := make([]body, len(p.Funcs))
	for n, f := range p.Funcs {
		l[n] = bodyOf(f)
	}
	return l
}

func bodyOf(f api.Func) body {
	b := body{vars: f.Vars, instrs: f.Vars + len(f.Code)}
	for _, x := range f.Code {
		switch x.Op {
		case api.Return: // a Copy for each result, and a Jump in its own place
			b.instrs += f.Results
		case api.New:
			b.news++
		case api.Addr:
			b.addr = true
		}
	}
	return b
}

// sizes: of a function and of the whole program, behind some moves.
type sizes struct {
	vars, instrs int // the function's
	locations    int // the program's
}

// with: the sizes behind one move more, which takes the place of its Call.
func (s sizes) with(b body) sizes {
	return sizes{s.vars + b.vars, s.instrs - 1 + b.instrs, s.locations + b.vars + b.news}
}

func (s sizes) allowed() bool {
	return s.vars <= api.MaxVars && s.instrs <= api.MaxCode && s.locations <= api.MaxLocs
}
