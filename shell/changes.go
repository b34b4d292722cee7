package shell

import (
	"slices"

	"fugue/api"
	"fugue/code"
	"fugue/incr"
	"fugue/inline"
	"fugue/text"
)

// begin: from now on the program is this one.
func (s *session) begin(p api.Program) {
	kept, e := incr.New(p)
	if e != api.OK {
		s.fail(e)
		return
	}
	s.kept = kept
	s.ok(p)
}

func (s *session) program(o order) {
	p, e, at := text.Parse(o.text)
	if e != api.OK {
		s.failAt(e, at)
		return
	}
	s.begin(p)
}

func (s *session) load(o order) {
	p, e, at := code.Decode(o.bytes)
	if e != api.OK {
		s.failAt(e, at)
		return
	}
	s.begin(p)
}

func (s *session) inline(o order) {
	p, e := inline.Apply(s.kept.Program(), o.moves...)
	if e != api.OK {
		s.fail(e)
		return
	}
	s.begin(p)
}

func (s *session) change(o order) {
	p, e, at := text.Parse(o.text)
	if e != api.OK {
		s.failAt(e, at)
		return
	}
	was := s.kept.Program()
	if p.Globals != was.Globals || len(p.Funcs) < len(was.Funcs) {
		s.fail(api.ErrArg)
		return
	}
	anew, e := s.kept.Change(others(was.Funcs, p.Funcs))
	if e != api.OK {
		s.fail(e)
		return
	}
	s.ok(p)
	for _, members := range anew {
		s.tell(append([]string{"solved"}, wordsOfNumbers(members)...)...)
	}
}

// others: the functions that are not just as they were, those that are more among them, with their numbers.
func others(was, are []api.Func) ([]int, []api.Func) {
	var at []int
	var fs []api.Func
	for n, f := range are {
		if n >= len(was) || !sameFunc(was[n], f) {
			at, fs = append(at, n), append(fs, f)
		}
	}
	return at, fs
}

func sameFunc(f, g api.Func) bool {
	return f.Params == g.Params && f.Results == g.Results && f.Vars == g.Vars && slices.EqualFunc(f.Code, g.Code, sameInstr)
}

func sameInstr(x, y api.Instr) bool {
	return x.Op == y.Op && x.R == y.R && x.S == y.S && x.T == y.T && x.N == y.N &&
		slices.Equal(x.Args, y.Args) && slices.Equal(x.Rets, y.Rets)
}
