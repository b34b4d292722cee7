package front_test

import (
	"slices"
	"strings"
	"testing"

	"fugue/front"
)

// chapter: the grammar as the chapter has it, its words set apart by blanks.
const chapter = `
source = { record | global | fn }
record = "record" NAME "{" { NAME type ";" } "}"
global = "global" NAME type ";"
fn     = "fn" NAME "(" [ NAME type { "," NAME type } ] ")" [ type { "," type } ] block
type   = "int" | "*" target
target = "int" | NAME | "*" target
block  = "{" { stmt } "}"
stmt   = "var" NAME type "=" expr ";"  |  "print" expr ";" | "return" [ expr { "," expr } ] ";" | "if" expr block [ "else" block ]  |  "while" expr block | call ";"  |  NAME "," NAME { "," NAME } "=" call ";" | ( NAME | post "." NAME | "*" unary ) "=" expr ";"
expr   = sum [ ( "<" | "==" ) sum ]
sum    = unary { "+" unary }
unary  = "*" unary | "&" NAME | "new" target | "null" type | post
post   = primary { "." NAME }
primary = NUMBER | NAME | call | "(" expr ")"
call   = NAME "(" [ expr { "," expr } ] ")"
`

// rules: by what they make, each way of making it. What no rule makes is a token.
type rules map[string][][]string

func grammar() rules {
	g := rules{}
	for l := range strings.SplitSeq(strings.TrimSpace(chapter), "\n") {
		words := strings.Fields(l)
		g.ways(words[0], words[2:], "")
	}
	return g
}

// ways reads what stands up to a closing word, as ways to make something; what is left behind that word.
func (g rules) ways(of string, words []string, closing string) []string {
	way := []string{}
	for len(words) > 0 && words[0] != closing {
		w := words[0]
		words = words[1:]
		made := of + "'" + string(rune('a'+len(g)%26)) + string(rune('a'+len(g)/26))
		switch w {
		case "|":
			g[of] = append(g[of], way)
			way = []string{}
			continue
		case "[":
			g[made] = [][]string{{}}
			words = g.ways(made, words, "]")
		case "{":
			g[made] = [][]string{{}}
			words = g.ways(made+"1", words, "}")
			g[made] = append(g[made], []string{made + "1", made})
		case "(":
			g[made] = nil
			words = g.ways(made, words, ")")
		default:
			made = w
		}
		way = append(way, made)
	}
	g[of] = append(g[of], way)
	if closing != "" {
		words = words[1:]
	}
	return words
}

// item: of a way to make something, how far it is, and behind how many tokens it began.
type item struct {
	of       string
	way, dot int
	began    int
}

// reading: all ways in which the tokens up to here may be read.
type reading struct {
	g      rules
	charts [][]item
}

func newReading(g rules) *reading {
	r := &reading{g: g}
	r.close([]item{{of: "source"}})
	return r
}

// close adds to a chart what follows from what is in it.
func (r *reading) close(chart []item) {
	at := len(r.charts)
	r.charts = append(r.charts, nil)
	has := map[item]bool{}
	for _, x := range chart {
		has[x] = true
	}
	add := func(x item) {
		if !has[x] {
			has[x] = true
			chart = append(chart, x)
		}
	}
	// What is empty is over as soon as it begins, so all is gone through until nothing comes.
	for was := -1; was != len(chart); {
		was = len(chart)
		for i := 0; i < len(chart); i++ {
			x := chart[i]
			way := r.way(x)
			if x.dot < len(way) {
				for n := range r.g[way[x.dot]] {
					add(item{of: way[x.dot], way: n, began: at})
				}
				continue
			}
			from := chart
			if x.began < at {
				from = r.charts[x.began]
			}
			for _, y := range slices.Clone(from) {
				if r.awaits(y) == x.of {
					y.dot++
					add(y)
				}
			}
		}
	}
	r.charts[at] = chart
}

func (r *reading) way(x item) []string {
	if ways := r.g[x.of]; x.way < len(ways) {
		return ways[x.way]
	}
	return nil
}

func (r *reading) awaits(x item) string {
	if way := r.way(x); x.dot < len(way) {
		return way[x.dot]
	}
	return ""
}

// take goes on with a token of that kind; false: it cannot stand there.
func (r *reading) take(kind string) bool {
	var chart []item
	for _, x := range r.charts[len(r.charts)-1] {
		if r.awaits(x) == kind {
			x.dot++
			chart = append(chart, x)
		}
	}
	if len(chart) == 0 {
		return false
	}
	r.close(chart)
	return true
}

// back forgets the last token.
func (r *reading) back() { r.charts = r.charts[:len(r.charts)-1] }

// over: may the source end here?
func (r *reading) over() bool {
	for _, x := range r.charts[len(r.charts)-1] {
		if x.of == "source" && x.began == 0 && x.dot == len(r.way(x)) {
			return true
		}
	}
	return false
}

// kindOf: a token's kind, as the grammar has it: in quotes, if it is a word or a sign.
func kindOf(token string) string {
	switch c := token[0]; {
	case slices.Contains(allKinds(), quoted(token)):
		return quoted(token)
	case 'a' <= c && c <= 'z':
		return "NAME"
	}
	return "NUMBER"
}

func allKeywords() []string {
	return strings.Fields("record global fn var if else while print return new null int")
}

func allSigns() []string { return strings.Fields("== { } ( ) , ; . = + < * &") }

func quoted(token string) string { return `"` + token + `"` }

func allKinds() []string {
	l := []string{"NAME", "NUMBER"}
	for _, t := range append(allKeywords(), allSigns()...) {
		l = append(l, quoted(t))
	}
	return l
}

// firstWrong: which of the tokens cannot stand where it does, behind those that were read; as many as there are: the end; -1: none.
func (r *reading) firstWrong(tokens []string) int {
	was := len(r.charts)
	defer func() { r.charts = r.charts[:was] }()
	for i, t := range tokens {
		if !r.take(kindOf(t)) {
			return i
		}
	}
	if !r.over() {
		return len(tokens)
	}
	return -1
}

// readsAs holds Compile and Print against the grammar; the tokens keep all bounds.
func readsAs(t *testing.T, tokens []string, wrong int) {
	t.Helper()
	src := onLines(tokens)
	if wrong >= 0 {
		refusedAt(t, src, 250, wrong+1)
		return
	}
	if _, e, _ := front.Compile(src); e == 250 {
		t.Fatalf("P25.1: %q: ErrSource", src)
	}
	if _, e, line := front.Print(src); e != 0 || line != 0 {
		t.Fatalf("P25.4: %q: %d at %d", src, e, line)
	}
}

// spoilt: the tokens from at on with the first left out, doubled, one more ahead of it, or another one in its place.
func spoilt(tokens []string, do func([]string)) {
	do(nil)
	do(tokens[1:])
	do(slices.Concat(tokens[:1], tokens))
	for _, k := range allKinds() {
		do(slices.Concat([]string{tokenOf(k)}, tokens))
		do(slices.Concat([]string{tokenOf(k)}, tokens[1:]))
	}
}

// tokenOf: one of that kind.
func tokenOf(kind string) string {
	switch kind {
	case "NAME":
		return "zz"
	case "NUMBER":
		return "77"
	}
	return strings.Trim(kind, `"`)
}

// In which every rule of the grammar is used in each of its ways.
var allRules = []string{
	"record r { } record cell { v int ; next * cell ; deep * * * int ; } global g int ; global h * cell ; fn main ( ) { }",
	"fn f ( a int , b * int , c * * r ) int , * r , * int { } fn g ( ) int { return ; }",
	"fn f ( ) { var x int = 1 ; print x ; return ; return 1 ; return 1 , x , f ( ) ; }",
	"fn f ( ) { if 1 { print 1 ; } else { print 2 ; } if 1 { } while x { if y { } else { } } }",
	"fn f ( ) { f ( ) ; f ( 1 ) ; f ( 1 , f ( x , 2 ) ) ; x , y = f ( ) ; x , y , z = f ( 1 ) ; }",
	"fn f ( ) { x = 1 ; x . f = 1 ; x . f . g . h = 2 ; f ( 1 ) . g = 3 ; ( x + 1 ) . f = 1 ; 5 . f = 1 ; * x = 1 ; * * x = 1 ; * x . f = 2 ; * & x = 1 ; * new int = 1 ; * null * int = 1 ; * ( x ) = 1 ; * 5 = 1 ; }",
	"fn f ( ) { print x < y ; print x == y ; print x + y + 1 < 2 + z ; print ( x < y ) == ( y == z ) ; }",
	"fn f ( ) { print * x ; print * * x + * y ; print & x + & y ; print new int ; print new r == new * * r ; print null int ; print null * r ; print null * * int < 1 ; }",
	"fn f ( ) { print x . y ; print x . y . z + f ( ) . z ; print 5 . v ; print ( * x ) . v . w ; print -1 ; }",
	"fn f ( ) { print -1 + -2 ; print ( ( ( 1 ) ) ) ; print f ( x . y , * z , & w , new r , null * r , ( 1 ) , 1 < 2 ) ; }",
}

func TestSpoiltSources(t *testing.T) {
	g := grammar()
	wrong := 0
	for _, s := range allRules {
		tokens := strings.Fields(s)
		r := newReading(g)
		if at := r.firstWrong(tokens); at >= 0 {
			t.Fatalf("%s: wrong at %d", s, at)
		}
		for at, token := range tokens {
			spoilt(tokens[at:], func(rest []string) {
				first := r.firstWrong(rest)
				if first >= 0 {
					first += at
					wrong++
				}
				readsAs(t, slices.Concat(tokens[:at], rest), first)
			})
			r.take(kindOf(token))
		}
		readsAs(t, tokens, -1)
	}
	if wrong < 10000 {
		t.Errorf("only %d sources were wrong", wrong)
	}
}

// All beginnings of statements, and of what else a source has, with each token behind each.
func TestAllShortBeginnings(t *testing.T) {
	g := grammar()
	sources := 0
	for _, c := range []struct {
		begins string
		more   int
	}{{"", 6}, {"fn f ( ", 6}, {"fn f ( ) ", 6}, {"fn f ( ) { ", 5}, {"fn f ( ) { x", 5}, {"fn f ( ) { f ( ", 4}, {"fn f ( ) { print ", 4}, {"fn f ( ) { if x { } ", 4}, {"fn f ( ) { var x ", 5}, {"fn f ( ) { ( x ) ", 5}, {"fn f ( ) { x . y ", 4}, {"fn f ( ) { * x ", 4}, {"record r { x ", 5}} {
		r := newReading(g)
		tokens := strings.Fields(c.begins)
		for _, w := range tokens {
			r.take(kindOf(w))
		}
		var grow func(more int)
		grow = func(more int) {
			sources++
			wrong := -1
			if !r.over() {
				wrong = len(tokens)
			}
			readsAs(t, tokens, wrong)
			if more == 0 {
				return
			}
			for _, k := range allKinds() {
				tokens = append(tokens, tokenOf(k))
				if r.take(k) {
					grow(more - 1)
					r.back()
				} else {
					readsAs(t, tokens, len(tokens)-1)
				}
				tokens = tokens[:len(tokens)-1]
			}
		}
		grow(c.more)
	}
	if sources < 10000 {
		t.Errorf("only %d sources", sources)
	}
}
