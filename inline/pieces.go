package inline

import "fugue/api"

// begins: where the pieces of the places begin, one behind the other from a place of the new code on, and where the last one ends.
func begins(code []api.Instr, from int, length func(at int, x api.Instr) int) []int {
	l := make([]int, 0, len(code)+1)
	for at, x := range code {
		l = append(l, from)
		from += length(at, x)
	}
	return append(l, from)
}

// newCode: a function's code with the bodies of its moves, whose variables begin at firsts.
func newCode(p api.Program, n int, firsts map[api.Move]int) []api.Instr {
	f := p.Funcs[n]
	begin := begins(f.Code, 0, func(at int, x api.Instr) int {
		if _, moved := firsts[api.Move{Func: n, At: at}]; moved {
			return pieceLength(p.Funcs[x.N])
		}
		return 1
	})
	lay := layer(0, begin)
	l := make([]api.Instr, 0, begin[len(f.Code)])
	for at, x := range f.Code {
		if first, moved := firsts[api.Move{Func: n, At: at}]; moved {
			l = appendPiece(l, x, p.Funcs[x.N], first)
		} else {
			l = append(l, lay(x))
		}
	}
	return l
}

// bodyBegins: begins of a callee's body. It stands behind as many instructions as the callee has variables, which make these begin anew.
func bodyBegins(g api.Func, from int) []int {
	return begins(g.Code, from+g.Vars, func(_ int, x api.Instr) int {
		if x.Op == api.Return {
			return g.Results + 1
		}
		return 1
	})
}

func pieceLength(g api.Func) int { return bodyBegins(g, 0)[len(g.Code)] }

// appendPiece: behind the code so far the piece of a move of that call of g.
func appendPiece(l []api.Instr, call api.Instr, g api.Func, first int) []api.Instr {
	begin := bodyBegins(g, len(l))
	for x := range g.Vars {
		if x < g.Params {
			l = append(l, api.Instr{Op: api.Copy, R: first + x, S: call.Args[x]})
		} else {
			l = append(l, api.Instr{Op: api.Null, R: first + x})
		}
	}
	lay, end := layer(first, begin), begin[len(g.Code)]
	for _, x := range g.Code {
		if x.Op == api.Return {
			l = appendReturn(l, call.Rets, raised(x.Args, first), end)
		} else {
			l = append(l, lay(x))
		}
	}
	return l
}

// appendReturn: what takes a Return's place: the results go where the call lays them, and on it goes at the end of its piece.
func appendReturn(l []api.Instr, rets, results []int, end int) []api.Instr {
	for j, r := range rets {
		l = append(l, api.Instr{Op: api.Copy, R: r, S: results[j]})
	}
	return append(l, api.Instr{Op: api.Jump, N: end})
}
