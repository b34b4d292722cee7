package shell_test

import (
	"encoding/hex"
	"fmt"
	"math/big"
	"regexp"
	"slices"
	"strconv"
	"strings"

	"fugue/api"
	"fugue/calls"
	"fugue/code"
	"fugue/crew"
	"fugue/inline"
	"fugue/run"
	"fugue/sums"
	"fugue/text"
	"fugue/whole"
	"fugue/why"
)

const (
	numberForm = `(?:0|[1-9][0-9]{0,8})`
	intForm    = `(?:0|-?[1-9][0-9]*)`
	valueForm  = `(?:nil|` + intForm + `)`
)

// plainForms: of the rows, one blank between each two words.
var plainForms = []*regexp.Regexp{
	regexp.MustCompile(`^(?:program|change|show|bytes|heap|sums)$`),
	regexp.MustCompile(`^load (?:[0-9a-f]{2})+$`),
	regexp.MustCompile(`^analyze ` + numberForm + `(?: ` + intForm + `)*$`),
	regexp.MustCompile(`^run ` + numberForm + `(?: ` + valueForm + `)*$`),
	regexp.MustCompile(`^inline(?: ` + numberForm + ` ` + numberForm + `)*$`),
	regexp.MustCompile(`^why ` + numberForm + ` (?:var|new) ` + numberForm + `$`),
}

var (
	plainBlanks = regexp.MustCompile(`[ \t]+`)
	least       = new(big.Int).Lsh(big.NewInt(-1), 63)
	most        = new(big.Int).Sub(new(big.Int).Lsh(big.NewInt(1), 63), big.NewInt(1))
)

// tidy: a line with one blank between each two words, and no other.
func tidy(line string) string {
	return strings.Trim(plainBlanks.ReplaceAllString(line, " "), " ")
}

// plainCheck: has the line its form? By patterns, and by numbers of any size.
func plainCheck(line string) bool {
	line = tidy(line)
	if line == "" {
		return true
	}
	if !slices.ContainsFunc(plainForms, func(r *regexp.Regexp) bool { return r.MatchString(line) }) {
		return false
	}
	words := strings.Split(line, " ")
	if words[0] == "load" {
		return true
	}
	for _, w := range words[1:] {
		if n, is := new(big.Int).SetString(w, 10); is && (n.Cmp(least) < 0 || n.Cmp(most) > 0) {
			return false
		}
	}
	return true
}

// plain: the shell by the chapter's words: it keeps a program alone, and solves it again for each line.
type plain struct {
	has  bool
	p    api.Program
	told []string
}

func (s *plain) tell(format string, more ...any) {
	s.told = append(s.told, fmt.Sprintf(format, more...))
}

func (s *plain) answers() string {
	if len(s.told) == 0 {
		return ""
	}
	return strings.Join(s.told, "\n") + "\n"
}

// plainRun: a whole script.
func plainRun(script string) string {
	s := &plain{}
	s.goOn(script)
	return s.answers()
}

// goOn takes whole lines, and no part of a text, but at a script's end.
func (s *plain) goOn(script string) {
	l := strings.Split(script, "\n")
	if l[len(l)-1] == "" {
		l = l[:len(l)-1]
	}
	for len(l) > 0 {
		line := tidy(l[0])
		l = l[1:]
		switch {
		case line == "":
		case !plainCheck(line):
			s.tell("error 240")
		case line == "program" || line == "change":
			end := slices.IndexFunc(l, func(x string) bool { return tidy(x) == "end" })
			if end < 0 {
				s.tell("error 240")
				return
			}
			lines := ""
			for _, x := range l[:end] {
				lines += x + "\n"
			}
			l = l[end+1:]
			s.text(line, lines)
		default:
			s.ask(strings.Split(line, " "))
		}
	}
}

func (s *plain) text(word, lines string) {
	if word == "change" && !s.has {
		s.tell("error 1")
		return
	}
	p, e, at := text.Parse(lines)
	if e != api.OK {
		s.tell("error %d %d", e, at)
		return
	}
	if word == "program" {
		s.becomes(p)
		return
	}
	if p.Globals != s.p.Globals || len(p.Funcs) < len(s.p.Funcs) {
		s.tell("error 1")
		return
	}
	anew := s.anew(p)
	s.becomes(p)
	for _, members := range anew {
		s.tell("solved %s", strings.Trim(fmt.Sprint(members), "[]"))
	}
}

func (s *plain) becomes(p api.Program) {
	s.has, s.p = true, p
	s.tell("ok %d", len(p.Funcs))
}

// anew: which components are solved anew, if the program becomes that one.
func (s *plain) anew(p api.Program) [][]int {
	before := map[string]bool{}
	was, _ := calls.New(s.p)
	for c := range was.Len() {
		before[fmt.Sprint(was.Members(c))] = true
	}
	now, _ := calls.New(p)
	old, _ := whole.Solve(s.p)
	r, _ := whole.Solve(p)
	another := func(f int) bool { return f >= len(old.Sums) || fmt.Sprint(old.Sums[f]) != fmt.Sprint(r.Sums[f]) }
	handedIn := func(f int) bool { return f >= len(s.p.Funcs) || fmt.Sprint(s.p.Funcs[f]) != fmt.Sprint(p.Funcs[f]) }
	again := make([]bool, now.Len())
	var anew [][]int
	for c := range now.Len() {
		again[c] = !before[fmt.Sprint(now.Members(c))] || slices.ContainsFunc(now.Members(c), handedIn)
		for _, d := range now.Callees(c) {
			again[c] = again[c] || again[d] && slices.ContainsFunc(now.Members(d), another)
		}
		if again[c] {
			anew = append(anew, now.Members(c))
		}
	}
	return anew
}

func (s *plain) ask(words []string) {
	word, words := words[0], words[1:]
	if word == "load" {
		b, _ := hex.DecodeString(words[0])
		p, e, at := code.Decode(b)
		if e != api.OK {
			s.tell("error %d %d", e, at)
			return
		}
		s.becomes(p)
		return
	}
	if !s.has {
		s.tell("error 1")
		return
	}
	r, _ := whole.Solve(s.p)
	switch word {
	case "show":
		t, _ := text.Print(s.p)
		s.tell("%s", strings.TrimSuffix(t, "\n"))
	case "bytes":
		b, _ := code.Encode(s.p)
		s.tell("%x", b)
	case "analyze":
		s.analyze(plainInts(words), r)
	case "heap":
		s.heap(r)
	case "sums":
		s.sums(r)
	case "run":
		s.run(words, r)
	case "inline":
		s.inline(plainInts(words))
	case "why":
		s.why(words)
	}
}

func plainInts(words []string) []int {
	var l []int
	for _, w := range words {
		n, _ := strconv.Atoi(w)
		l = append(l, n)
	}
	return l
}

func (s *plain) analyze(n []int, r api.Result) {
	_, events, e := crew.Scripted(s.p, n[0], n[1:]...)
	if e != api.OK {
		s.tell("error %d 0", e)
		return
	}
	b, _ := sums.EncodeResult(s.p, r)
	s.tell("steps %d\n%x", len(events), b)
}

func (s *plain) heap(r api.Result) {
	many := len(s.told)
	for f := range s.p.Funcs {
		for v, is := range r.Vars[f] {
			if is {
				s.tell("%d var %d", f, v)
			}
		}
		for at, is := range r.Code[f] {
			if is {
				s.tell("%d new %d", f, at)
			}
		}
	}
	if len(s.told) == many {
		s.tell("none")
	}
}

// sums: numbers are told and then the Nones put into their places.
func (s *plain) sums(r api.Result) {
	for f, sum := range r.Sums {
		line := fmt.Sprintf("%d:", f)
		for i := range sum.Heap {
			l := fmt.Sprint(append([]int{sum.Heap[i]}, sum.Result[i]...))
			line += " " + strings.NewReplacer("[", "", "]", "", " ", ",", "9", "-").Replace(l)
		}
		s.tell("%s", line)
	}
}

func plainValue(v api.Value) any {
	return []any{"nil", v.N, "ptr"}[v.Kind]
}

func (s *plain) run(words []string, r api.Result) {
	n := plainInts(words)
	var args []api.Value
	for i, w := range words[1:] {
		if w == "nil" {
			args = append(args, api.Value{})
		} else {
			args = append(args, api.Value{Kind: api.Num, N: n[1+i]})
		}
	}
	t, e := run.Run(s.p, r, n[0], args...)
	if e != api.OK {
		s.tell("error %d", e)
		return
	}
	for _, v := range t.Prints {
		s.tell("print %v", plainValue(v))
	}
	line := fmt.Sprintf("%s %d", strings.Fields("done fuel nils fields dangle")[t.End], t.Steps)
	for _, v := range t.Results {
		line += fmt.Sprintf(" %v", plainValue(v))
	}
	s.tell("%s", line)
}

func (s *plain) inline(n []int) {
	var ms []api.Move
	for ; len(n) > 0; n = n[2:] {
		ms = append(ms, api.Move{Func: n[0], At: n[1]})
	}
	p, e := inline.Apply(s.p, ms...)
	if e != api.OK {
		s.tell("error %d", e)
		return
	}
	s.becomes(p)
}

func (s *plain) why(words []string) {
	n := plainInts(words)
	site := api.Site{Func: n[0], At: n[2]}
	if words[1] == "var" {
		site.At, site.Var = -1, n[2]
	}
	w, e := why.Find(s.p, site)
	if e != api.OK {
		s.tell("error %d", e)
		return
	}
	t, _ := why.Print(s.p, w)
	s.tell("%s", strings.TrimSuffix(t, "\n"))
}
