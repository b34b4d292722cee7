package text

import "strings"

// tokensOf lays a line's tokens behind those given; false: a byte is wrong.
func tokensOf(line string, tokens []string) ([]string, bool) {
	at := 0
bytes:
	for at < len(line) {
		if line[at] == '#' {
			break
		}
		if isBlank(line[at]) {
			at++
			continue
		}
		if n := signLength(line[at:]); n > 0 {
			tokens = append(tokens, line[at:at+n])
			at += n
			continue
		}
		if !beginsWord(line[at:]) {
			return tokens, false
		}
		for end := at + 1; end < len(line); end++ {
			if !isOfWord(line[end]) {
				tokens = append(tokens, line[at:end])
				at = end
				continue bytes
			}
		}
		return append(tokens, line[at:]), true
	}
	return tokens, true
}

func isBlank(c byte) bool { return c == ' ' || c == '\t' }

func isDigit(c byte) bool { return '0' <= c && c <= '9' }

func isOfWord(c byte) bool { return 'a' <= c && c <= 'z' || isDigit(c) }

// beginsWord: a - does, if a digit stands right behind it.
func beginsWord(line string) bool {
	return isOfWord(line[0]) || line[0] == '-' && len(line) > 1 && isDigit(line[1])
}

// signLength: of how many bytes the sign is with which a line begins (0: with none).
func signLength(line string) int {
	if strings.HasPrefix(line, "==") {
		return 2
	}
	if strings.IndexByte("=+<&.,()", line[0]) >= 0 {
		return 1
	}
	return 0
}
