package inline_test

import (
	"fmt"
	"regexp"
	"slices"
	"strconv"
	"strings"

	"fugue/api"
	"fugue/text"
)

var (
	variable = regexp.MustCompile(`\bv([0-9]+)`)
	target   = regexp.MustCompile(`jump ([0-9]+)$`)
)

// spot: a place of the function itself (move -1) or of the body that a move puts in; behind is that behind the whole piece of the move.
type spot struct{ move, place int }

const behind = -1

// line: of the new text; its jump leads to a spot, if it has one.
type line struct {
	words string
	to    spot
}

// sheet: a function's new text as the chapter's words lay it, in lines of chapter 2: what is a variable there begins with a v.
type sheet struct {
	lines []line
	spots map[spot]int
}

func (s *sheet) begin(at spot) { s.spots[at] = len(s.lines) }

func (s *sheet) add(to spot, format string, args ...any) {
	s.lines = append(s.lines, line{fmt.Sprintf(format, args...), to})
}

// copied: the instruction itself, its variables so many further on.
func (s *sheet) copied(x api.Instr, move, further int) {
	words := variable.ReplaceAllStringFunc(text.Instr(x), func(v string) string {
		n, _ := strconv.Atoi(v[1:])
		return fmt.Sprint("v", n+further)
	})
	s.add(spot{move, x.N}, "%s", words)
}

// moved: the piece of the move of that number.
func (s *sheet) moved(p api.Program, x api.Instr, move, further int) {
	g := p.Funcs[x.N]
	for i := range g.Params {
		s.add(spot{}, "v%d = v%d", further+i, x.Args[i])
	}
	for v := g.Params; v < g.Vars; v++ {
		s.add(spot{}, "v%d = null", further+v)
	}
	for at, y := range g.Code {
		s.begin(spot{move, at})
		if y.Op != api.Return {
			s.copied(y, move, further)
			continue
		}
		for j := range x.Rets {
			s.add(spot{}, "v%d = v%d", x.Rets[j], further+y.Args[j])
		}
		s.add(spot{move, behind}, "jump 0")
	}
	s.begin(spot{move, behind})
}

// text: with the jumps set right.
func (s *sheet) text() string {
	var b strings.Builder
	for _, l := range s.lines {
		b.WriteString("  " + target.ReplaceAllStringFunc(l.words, func(string) string {
			return fmt.Sprint("jump ", s.spots[l.to])
		}) + "\n")
	}
	return b.String()
}

// plainText: the text of the program that follows from a plan.
func plainText(p api.Program, ms []api.Move) string {
	var b strings.Builder
	fmt.Fprintf(&b, "globals %d\n", p.Globals)
	for n, f := range p.Funcs {
		s, vars, move := &sheet{spots: map[spot]int{}}, f.Vars, 0
		for at, x := range f.Code {
			s.begin(spot{-1, at})
			if !slices.Contains(ms, api.Move{Func: n, At: at}) {
				s.copied(x, -1, 0)
				continue
			}
			s.moved(p, x, move, vars)
			vars += p.Funcs[x.N].Vars
			move++
		}
		fmt.Fprintf(&b, "func params %d results %d vars %d\n%s", f.Params, f.Results, vars, s.text())
	}
	return b.String()
}
