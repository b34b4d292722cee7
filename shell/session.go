package shell

import (
	"strconv"
	"strings"

	"fugue/api"
	"fugue/incr"
)

// session: what is left of a script, what was told of it so far, and the program with its result.
type session struct {
	table table
	left  string
	told  strings.Builder
	kept  *incr.Session // nil: no program yet
}

// next takes a line from the script.
func (s *session) next() string {
	line, left, _ := strings.Cut(s.left, "\n")
	s.left = left
	return line
}

// text takes the lines up to one whose one word is end; false: there is none, and nothing is left.
func (s *session) text() (string, bool) {
	all := s.left
	for s.left != "" {
		ahead := len(all) - len(s.left)
		if strings.Trim(s.next(), blanks) == "end" {
			return all[:ahead], true
		}
	}
	return "", false
}

// line does what a line says.
func (s *session) line(line string) {
	words := wordsOf(line)
	if len(words) == 0 {
		return
	}
	r, o, is := s.table.read(words)
	if is && r.texts {
		o.text, is = s.text()
	}
	if !is {
		s.fail(api.ErrLine)
		return
	}
	if s.kept == nil && !r.begins {
		s.fail(api.ErrArg)
		return
	}
	r.does(s, o)
}

// tell tells a line.
func (s *session) tell(words ...string) {
	s.told.WriteString(strings.Join(words, " "))
	s.told.WriteByte('\n')
}

func (s *session) ok(p api.Program) { s.tell("ok", strconv.Itoa(len(p.Funcs))) }

func (s *session) fail(e api.Errno) { s.tell("error", strconv.Itoa(int(e))) }

// failAt: one of those that are told with their line or offset.
func (s *session) failAt(e api.Errno, at int) {
	s.tell("error", strconv.Itoa(int(e)), strconv.Itoa(at))
}
