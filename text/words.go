package text

import "strconv"

const (
	mostDigits = 9
	mostNumber = 999999999
)

// readNumber: a word of digits, not too many, without needless zeros.
func readNumber(word string) (int, bool) {
	if !isPlain(word) || len(word) > mostDigits {
		return 0, false
	}
	n := 0
	for i := range len(word) {
		n = n*10 + int(word[i]-'0')
	}
	return n, true
}

// readInt: a word that is a number of 64 bits with sign.
func readInt(word string) (int, bool) {
	digits := word
	if word[0] == '-' {
		digits = word[1:]
	}
	if !isPlain(digits) || word == "-0" {
		return 0, false
	}
	n, err := strconv.ParseInt(word, 10, 64)
	return int(n), err == nil
}

// isPlain: digits alone, at least one, without needless zeros ahead.
func isPlain(word string) bool {
	for i := range len(word) {
		if !isDigit(word[i]) {
			return false
		}
	}
	return len(word) > 0 && (word[0] != '0' || len(word) == 1)
}

func readVariable(word string) (int, bool) { return readNamed('v', word) }

func readGlobal(word string) (int, bool) { return readNamed('g', word) }

func readFunction(word string) (int, bool) { return readNamed('f', word) }

// readNamed: a number right behind a letter.
func readNamed(letter byte, word string) (int, bool) {
	if word[0] != letter {
		return 0, false
	}
	return readNumber(word[1:])
}

func writeNumber(b []byte, n int) ([]byte, bool) {
	return strconv.AppendInt(b, int64(n), 10), 0 <= n && n <= mostNumber
}

func writeInt(b []byte, n int) ([]byte, bool) {
	return strconv.AppendInt(b, int64(n), 10), true
}

func writeVariable(b []byte, n int) ([]byte, bool) { return writeNumber(append(b, 'v'), n) }

func writeGlobal(b []byte, n int) ([]byte, bool) { return writeNumber(append(b, 'g'), n) }

func writeFunction(b []byte, n int) ([]byte, bool) { return writeNumber(append(b, 'f'), n) }
