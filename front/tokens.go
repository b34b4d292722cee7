package front

import (
	"strconv"
	"strings"
)

// The kinds of tokens; that of a keyword or a sign is the token itself, that of bytes that are no token is empty.
const (
	aName   = "a name"
	aNumber = "a number"
	theEnd  = "the end"
)

const (
	signs      = "{}(),;.=+<*&"
	longest    = 24 // bytes of a name
	mostDigits = 19 // of a number of 64 bits
)

var keywords = [...]string{"record", "global", "fn", "var", "if", "else", "while", "print", "return", "new", "null", "int"}

type token struct {
	kind string
	word
	number int
}

// scanner gives the tokens of a source, one after the other.
type scanner struct {
	left string // what is not read yet
	line int    // of its first byte
}

func (s *scanner) token() token {
	s.skip()
	t := token{word: word{line: s.line}}
	switch {
	case s.left == "":
		t.kind = theEnd
	case isLetter(s.left[0]):
		s.readWord(&t)
	case isDigit(s.left[0]) || s.left[0] == '-':
		s.readNumber(&t)
	default:
		s.readSign(&t)
	}
	return t
}

// skip goes over blanks and comments.
func (s *scanner) skip() {
	for s.left != "" {
		switch s.left[0] {
		case '\t', '\r', ' ':
		case '\n':
			s.line++
		case '#':
			s.left = s.left[lengthOf(s.left, isOfComment):]
			continue
		default:
			return
		}
		s.left = s.left[1:]
	}
}

// cut takes so many bytes.
func (s *scanner) cut(many int) string {
	text := s.left[:many]
	s.left = s.left[many:]
	return text
}

func (s *scanner) readWord(t *token) {
	t.text = s.cut(lengthOf(s.left, isOfWord))
	switch {
	case isKeyword(t.text):
		t.kind = t.text
	case len(t.text) <= longest:
		t.kind = aName
	}
}

func (s *scanner) readNumber(t *token) {
	minus := 0
	if s.left[0] == '-' {
		minus = 1
	}
	t.text = s.cut(minus + lengthOf(s.left[minus:], isDigit))
	if !isPlain(t.text, minus) || s.left != "" && isOfWord(s.left[0]) {
		return
	}
	if n, err := strconv.ParseInt(t.text, 10, 64); err == nil {
		t.kind, t.number = aNumber, int(n)
	}
}

// isPlain: behind its minus the number has digits, not too many, and no needless zeros.
func isPlain(text string, minus int) bool {
	digits := text[minus:]
	return len(digits) > 0 && len(digits) <= mostDigits && (digits[0] != '0' || text == "0")
}

func (s *scanner) readSign(t *token) {
	switch {
	case strings.HasPrefix(s.left, "=="):
		t.text = s.cut(2)
	case strings.IndexByte(signs, s.left[0]) >= 0:
		t.text = s.cut(1)
	}
	t.kind = t.text
}

func isKeyword(text string) bool {
	for _, k := range keywords {
		if text == k {
			return true
		}
	}
	return false
}

// lengthOf: how many of the first bytes of a text are of a kind.
func lengthOf(text string, is func(byte) bool) int {
	for i := range len(text) {
		if !is(text[i]) {
			return i
		}
	}
	return len(text)
}

func isLetter(c byte) bool { return 'a' <= c && c <= 'z' }

func isDigit(c byte) bool { return '0' <= c && c <= '9' }

func isOfWord(c byte) bool { return isLetter(c) || isDigit(c) || c == '_' }

func isOfComment(c byte) bool { return c != '\n' }
