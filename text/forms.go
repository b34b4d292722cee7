package text

import (
	"strings"

	"fugue/api"
)

// form: of which operation a line is, and its words and signs with a blank between each two. A capital letter is no word: it stands for what its holder reads and writes.
type form struct {
	op   int
	text string
}

// forms: all lines that there are. Calls with results stand last, since whatever begins with a variable is held against them too.
var forms = [...]form{
	{globalsLine, "globals M"},
	{headLine, "func params P results Q vars V"},
	{api.Int, "R = int I"},
	{api.Copy, "R = S"},
	{api.Add, "R = S + T"},
	{api.Less, "R = S < T"},
	{api.Same, "R = S == T"},
	{api.Null, "R = null"},
	{api.Addr, "R = & S"},
	{api.New, "R = new N"},
	{api.Load, "R = S . N"},
	{api.Store, "R . N = S"},
	{api.Get, "R = G"},
	{api.Set, "G = S"},
	{api.Print, "print S"},
	{api.Jump, "jump N"},
	{api.If, "if S jump N"},
	{api.Return, "return"},
	{api.Return, "return A"},
	{api.Call, "F ( )"},
	{api.Call, "F ( A )"},
	{api.Call, "B = F ( )"},
	{api.Call, "B = F ( A )"},
}

// The lines that are no instructions have numbers that are no operations.
const (
	globalsLine = -1
	headLine    = -2
)

// line: what a line says; each kind of line uses some of it.
type line struct {
	globals int
	head    api.Func
	instr   api.Instr
}

// isBare: is nothing said by an instruction's fields?
func isBare(i api.Instr) bool {
	return i.R == 0 && i.S == 0 && i.T == 0 && i.N == 0 && len(i.Args) == 0 && len(i.Rets) == 0
}

// shape: a form taken apart.
type shape struct {
	op    int
	parts []part
}

// part: a word or a sign that stands in the line as it is, or a holder.
type part struct {
	text   string
	holder holder
}

func makeShape(f form, holders *[letters]holder) shape {
	s := shape{op: f.op}
	for _, text := range strings.Fields(f.text) {
		if isLetter(text[0]) {
			s.parts = append(s.parts, part{holder: holders[text[0]-'A']})
		} else {
			s.parts = append(s.parts, part{text: text})
		}
	}
	return s
}

// makeShapes: those of all lines.
func makeShapes() []shape {
	holders := makeHolders()
	var shapes []shape
	for _, f := range forms {
		shapes = append(shapes, makeShape(f, &holders))
	}
	return shapes
}

// shapesOf: those of one operation.
func shapesOf(op int) []shape {
	holders := makeHolders()
	var shapes []shape
	for _, f := range forms {
		if f.op == op && op > 0 {
			shapes = append(shapes, makeShape(f, &holders))
		}
	}
	return shapes
}

// read takes the tokens of a whole line; what they say is in l, if they are of this shape.
func (s *shape) read(tokens []string, l *line) bool {
	*l = line{}
	for i := range s.parts {
		var ok bool
		if tokens, ok = s.parts[i].read(tokens, l); !ok {
			return false
		}
	}
	return len(tokens) == 0
}

// read takes a part's tokens and gives those behind them.
func (p *part) read(tokens []string, l *line) ([]string, bool) {
	if len(tokens) == 0 {
		return nil, false
	}
	if p.text != "" {
		return tokens[1:], tokens[0] == p.text
	}
	return p.holder.take(tokens, l)
}

// write lays behind b what l says, and takes from l what it lays.
func (s *shape) write(b []byte, l *line) ([]byte, bool) {
	for i := range s.parts {
		var ok bool
		if b, ok = s.parts[i].write(b, l); !ok {
			return b, false
		}
	}
	return b, true
}

func (p *part) write(b []byte, l *line) ([]byte, bool) {
	if p.text != "" {
		return append(gap(b, p.text[0]), p.text...), true
	}
	return p.holder.give(b, l)
}

// ofWord stands for the first byte of a word, whichever it is.
const ofWord = 'v'

// gap lays a blank, where one must stand, between what is there and a word or sign that begins with the byte next.
func gap(b []byte, next byte) []byte {
	if len(b) == 0 || strings.IndexByte(" \n&.(", b[len(b)-1]) >= 0 || strings.IndexByte(",.()", next) >= 0 {
		return b
	}
	return append(b, ' ')
}
