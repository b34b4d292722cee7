package shell

import (
	"strconv"
	"strings"

	"fugue/api"
)

const (
	blanks     = " \t"
	mostDigits = 9  // of a number
	mostBytes  = 20 // of an int
	hexDigits  = "0123456789abcdef"
)

// wordsOf: the runs of a line's bytes that are no blanks.
func wordsOf(line string) []string {
	return strings.FieldsFunc(line, func(r rune) bool { return strings.ContainsRune(blanks, r) })
}

// readNumber: digits, not too many, without needless zeros.
func readNumber(word string) (int, bool) {
	n, is := readInt(word)
	return n, is && n >= 0 && len(word) <= mostDigits
}

// readInt: a number of 64 bits with sign. It is laid as a word again, so that no other word of the same number passes.
func readInt(word string) (int, bool) {
	if len(word) > mostBytes {
		return 0, false
	}
	n, err := strconv.Atoi(word)
	return n, err == nil && strconv.Itoa(n) == word
}

func readValue(word string) (api.Value, bool) {
	if word == "nil" {
		return api.Value{}, true
	}
	n, is := readInt(word)
	return api.Value{Kind: api.Num, N: n}, is
}

func readHex(word string) ([]byte, bool) {
	if len(word)%2 != 0 {
		return nil, false
	}
	b := make([]byte, len(word)/2)
	for i := range len(word) {
		digit := strings.IndexByte(hexDigits, word[i])
		if digit < 0 {
			return nil, false
		}
		b[i/2] = b[i/2]<<4 | byte(digit)
	}
	return b, true
}

func hexOf(b []byte) string {
	var word strings.Builder
	word.Grow(2 * len(b))
	for _, x := range b {
		word.WriteByte(hexDigits[x>>4])
		word.WriteByte(hexDigits[x&15])
	}
	return word.String()
}

func valueOf(v api.Value) string {
	switch v.Kind {
	case api.Nil:
		return "nil"
	case api.Ptr:
		return "ptr"
	}
	return strconv.Itoa(v.N)
}

func wordsOfNumbers(numbers []int) []string {
	words := make([]string, len(numbers))
	for i, n := range numbers {
		words[i] = strconv.Itoa(n)
	}
	return words
}
