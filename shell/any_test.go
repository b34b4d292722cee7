package shell_test

import (
	"encoding/hex"
	"fmt"
	"math/rand"
	"slices"
	"strings"

	"fugue/api"
	"fugue/code"
	"fugue/plan"
	"fugue/whole"
)

// some: so many of the numbers below n.
func some(r *rand.Rand, many, n int) []int {
	var l []int
	for range many {
		l = append(l, r.Intn(n))
	}
	return l
}

func pick[T any](r *rand.Rand, l ...T) T { return l[r.Intn(len(l))] }

// maker: of one function of a program whose heads are there.
type maker struct {
	r      *rand.Rand
	p      api.Program
	f      api.Func
	at     int // its number
	length int
}

func (m maker) v() int { return m.r.Intn(m.f.Vars) }

// callee: for the most part one that comes later, so that there are chains, and few rings.
func (m maker) callee() int {
	if later := len(m.p.Funcs) - m.at - 1; later > 0 && m.r.Intn(6) > 0 {
		return m.at + 1 + m.r.Intn(later)
	}
	return m.r.Intn(len(m.p.Funcs))
}

// instr: any operation, calls, Prints and what makes pointers more often; jumps lead ahead for the most part, so that runs come far.
func (m maker) instr(at int) api.Instr {
	op := pick(m.r, 1, 2, 3, 4, 5, 6, 7, 8, 9, 10, 11, 12, 13, 14, 15, 16, 17, api.New, api.New, api.Print, api.Print, api.Call, api.Call, api.Call, api.Int)
	target := min(at+1+m.r.Intn(4), m.length-1)
	if m.r.Intn(10) == 0 {
		target = m.r.Intn(m.length)
	}
	switch op {
	case api.Int:
		return api.Instr{Op: op, R: m.v(), N: pick(m.r, 0, 1, 2, -5, 1000000, 1<<63-1, -1<<63)}
	case api.Null:
		return api.Instr{Op: op, R: m.v()}
	case api.Copy, api.Addr:
		return api.Instr{Op: op, R: m.v(), S: m.v()}
	case api.Add, api.Less, api.Same:
		return api.Instr{Op: op, R: m.v(), S: m.v(), T: m.v()}
	case api.New:
		return api.Instr{Op: op, R: m.v(), N: 1 + m.r.Intn(api.MaxFields)}
	case api.Load, api.Store:
		return api.Instr{Op: op, R: m.v(), S: m.v(), N: pick(m.r, 0, 0, 1, 7)}
	case api.Get:
		return api.Instr{Op: op, R: m.v(), N: m.r.Intn(m.p.Globals)}
	case api.Set:
		return api.Instr{Op: op, S: m.v(), N: m.r.Intn(m.p.Globals)}
	case api.Print:
		return api.Instr{Op: op, S: m.v()}
	case api.Jump:
		return api.Instr{Op: op, N: target}
	case api.If:
		return api.Instr{Op: op, S: m.v(), N: target}
	case api.Return:
		return api.Instr{Op: op, Args: some(m.r, m.f.Results, m.f.Vars)}
	}
	n := m.callee()
	g := m.p.Funcs[n]
	return api.Instr{Op: api.Call, N: n, Args: some(m.r, g.Params, m.f.Vars), Rets: some(m.r, g.Results, m.f.Vars)}
}

// function: one with the head that the program has at that number.
func function(r *rand.Rand, p api.Program, at int) api.Func {
	f := p.Funcs[at]
	m := maker{r, p, f, at, 1 + r.Intn(9)}
	f.Code = nil
	for at := range m.length - 1 {
		f.Code = append(f.Code, m.instr(at))
	}
	f.Code = append(f.Code, api.Instr{Op: api.Return, Args: some(r, f.Results, f.Vars)})
	return f
}

func anyHead(r *rand.Rand) api.Func {
	if r.Intn(3) > 0 {
		return api.Func{Params: 1, Results: 1, Vars: 2 + r.Intn(4)}
	}
	vars := 1 + r.Intn(5)
	return api.Func{Params: r.Intn(min(vars, 3) + 1), Results: r.Intn(3), Vars: vars}
}

func anyProgram(r *rand.Rand, funcs int) api.Program {
	p := api.Program{Globals: 1 + r.Intn(3)}
	for range 1 + r.Intn(funcs) {
		p.Funcs = append(p.Funcs, anyHead(r))
	}
	for n := range p.Funcs {
		p.Funcs[n] = function(r, p, n)
	}
	return p
}

// anyChanged: the program with some functions made anew with the heads that they had, and some that are more.
func anyChanged(r *rand.Rand, p api.Program) api.Program {
	p.Funcs = slices.Clone(p.Funcs)
	was := len(p.Funcs)
	for range r.Intn(2) * r.Intn(3) {
		p.Funcs = append(p.Funcs, anyHead(r))
	}
	for n := range p.Funcs {
		if n >= was || r.Intn(4) == 0 {
			p.Funcs[n] = function(r, p, n)
		}
	}
	return p
}

// loose: a text with more blanks, comments and empty lines, and lines within that are the shell's in other places.
func loose(r *rand.Rand, t string) string {
	var b strings.Builder
	for _, l := range strings.SplitAfter(t, "\n") {
		if r.Intn(12) == 0 {
			b.WriteString(pick(r, "\n", "  # show\n", "#\n", "\t\n", "# end\n", "#end\n"))
		}
		if r.Intn(8) == 0 {
			l = "\t " + strings.ReplaceAll(l, " ", "  ")
		}
		b.WriteString(l)
	}
	return b.String()
}

// spoilt: a text with a line more, a line less, or a byte of it another one.
func spoilt(r *rand.Rand, t string) string {
	l := strings.SplitAfter(t, "\n")
	at := r.Intn(len(l))
	switch r.Intn(3) {
	case 0:
		l = slices.Insert(l, at, pick(r, "show\n", "heap\n", "program\n", "return v300\n", "globals 0\n", "end end\n", "run 5\n", "x\n", "v0 = f99()\n"))
	case 1:
		l = slices.Delete(l, at, at+1)
	default:
		if l[at] != "" {
			b := []byte(l[at])
			b[r.Intn(len(b))] = byte(pick(r, '0', '9', 'v', ' ', '#', '=', 200))
			l[at] = string(b)
		}
	}
	return strings.TrimSuffix(strings.Join(l, ""), "\n") + "\n"
}

// text: a text to its end, now and then a wrong one.
func anyText(r *rand.Rand, p api.Program) string {
	t := loose(r, printed(p))
	if r.Intn(8) == 0 {
		t = spoilt(r, t)
	}
	return t + pick(r, "end\n", " end\n", "end\t \n")
}

func anyInts(r *rand.Rand, many int) string {
	var b strings.Builder
	for range many {
		fmt.Fprintf(&b, " %d", pick(r, 0, 1, 2, 3, -1, -7, r.Int(), -r.Int(), 1<<63-1, -1<<63))
	}
	return b.String()
}

func anyValues(r *rand.Rand, many int) string {
	var b strings.Builder
	for range many {
		b.WriteString(pick(r, " nil", anyInts(r, 1)))
	}
	return b.String()
}

func anyMoves(r *rand.Rand, p api.Program) string {
	ms, _ := plan.Make(p, 1+r.Intn(8), 30)
	var b strings.Builder
	for _, m := range ms {
		if r.Intn(2) == 0 {
			fmt.Fprintf(&b, " %d %d", m.Func, m.At)
		}
	}
	if r.Intn(6) == 0 {
		fmt.Fprintf(&b, " %d %d", r.Intn(5), r.Intn(8))
	}
	return b.String()
}

func anyLoad(r *rand.Rand) string {
	b, _ := code.Encode(anyProgram(r, 5))
	switch r.Intn(8) {
	case 0:
		b = b[:1+r.Intn(len(b))]
	case 1:
		b = append(b, byte(r.Intn(256)))
	case 2:
		b[r.Intn(len(b))] = byte(r.Intn(20))
	}
	return "load " + hex.EncodeToString(b)
}

// soup: words of lines in any order, most of which are no lines.
func soup(r *rand.Rand) string {
	l := []string{pick(r, "run", "analyze", "inline", "why", "load", "show", "heap", "end", "bytes", "sums", "x")}
	for range r.Intn(4) {
		l = append(l, pick(r, "0", "1", "2", "00", "-1", "-0", "nil", "var", "new", "ff", "f", "9223372036854775807", "9223372036854775808", "1234", "1000000000", "end", "run", "\r", "é"))
	}
	return strings.Join(l, pick(r, " ", "\t", "  "))
}

// anySite: one on the heap as often as any, or none at all.
func anySite(r *rand.Rand, p api.Program) string {
	h, _ := whole.Solve(p)
	s := &plain{p: p}
	if s.heap(h); r.Intn(2) == 0 && s.told[0] != "none" {
		return pick(r, s.told...)
	}
	return fmt.Sprintf("%d %s %d", r.Intn(len(p.Funcs)+1), pick(r, "var", "new"), r.Intn(6))
}

// anyLine: a line, or a text with its lines, for a session with that program.
func anyLine(r *rand.Rand, s *plain) string {
	if r.Intn(12) == 0 || !s.has && r.Intn(2) == 0 {
		if r.Intn(3) == 0 {
			return anyLoad(r) + "\n"
		}
		return "program\n" + anyText(r, anyProgram(r, 6))
	}
	p := s.p
	params := 0
	if s.has {
		params = p.Funcs[0].Params
	} else {
		p = anyProgram(r, 2)
	}
	if r.Intn(12) == 0 {
		params = r.Intn(4)
	}
	switch r.Intn(14) {
	case 0, 1, 2:
		q := anyChanged(r, p)
		if r.Intn(16) == 0 {
			q.Globals++
		}
		if r.Intn(16) == 0 {
			q = anyProgram(r, len(p.Funcs))
		}
		return "change\n" + anyText(r, q)
	case 3, 4, 5:
		return fmt.Sprintf("run %d%s\n", pick(r, 0, 1, 5, 30, 200, 200), anyValues(r, params))
	case 6:
		return fmt.Sprintf("analyze %d%s\n", pick(r, 0, 1, 2, 3, 7, 64, 65, 999999999), anyInts(r, r.Intn(12)))
	case 7, 8:
		return "why " + anySite(r, p) + "\n"
	case 9:
		return "inline" + anyMoves(r, p) + "\n"
	case 10:
		return soup(r) + "\n"
	}
	return pick(r, "", " ", "\t") + pick(r, "show", "bytes", "heap", "sums", "heap", "sums", "") + pick(r, "", " ", "\t") + "\n"
}

// anyScript: so many lines and texts, each by itself.
func anyScript(r *rand.Rand, many int) []string {
	s := &plain{}
	var l []string
	for range many {
		x := anyLine(r, s)
		s.goOn(x)
		if len(s.p.Funcs) > 40 || len(printed(s.p)) > 20000 { // inlined again and again
			x += program(printed(anyProgram(r, 4)))
			s.goOn(x)
		}
		l = append(l, x)
	}
	return l
}
