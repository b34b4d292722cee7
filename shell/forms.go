package shell

import (
	"slices"

	"fugue/api"
)

// order: what a line says beside its first word; what its row does not name is zero.
type order struct {
	text   string // the lines between it and its end
	bytes  []byte
	number int // of workers, or of steps
	picks  []int
	values []api.Value
	moves  []api.Move
	site   api.Site
}

// alone: the form of the lines that are one word.
func alone(words []string) (order, bool) { return order{}, len(words) == 0 }

func loadForm(words []string) (order, bool) {
	if len(words) != 1 {
		return order{}, false
	}
	b, is := readHex(words[0])
	return order{bytes: b}, is
}

func analyzeForm(words []string) (order, bool) {
	n, picks, are := numberAnd(words, readInt)
	return order{number: n, picks: picks}, are
}

func runForm(words []string) (order, bool) {
	n, values, are := numberAnd(words, readValue)
	return order{number: n, values: values}, are
}

func inlineForm(words []string) (order, bool) {
	numbers, are := all(words, readNumber)
	if !are || len(numbers)%2 != 0 {
		return order{}, false
	}
	var o order
	for pair := range slices.Chunk(numbers, 2) {
		o.moves = append(o.moves, api.Move{Func: pair[0], At: pair[1]})
	}
	return o, true
}

func whyForm(words []string) (order, bool) {
	if len(words) != 3 {
		return order{}, false
	}
	f, isFunc := readNumber(words[0])
	n, isSite := readNumber(words[2])
	site := api.Site{Func: f, At: -1, Var: n}
	switch words[1] {
	case "var":
	case "new":
		site = api.Site{Func: f, At: n}
	default:
		return order{}, false
	}
	return order{site: site}, isFunc && isSite
}

// numberAnd: a number, and any number of others behind it.
func numberAnd[T any](words []string, read func(string) (T, bool)) (int, []T, bool) {
	if len(words) == 0 {
		return 0, nil, false
	}
	n, is := readNumber(words[0])
	others, are := all(words[1:], read)
	return n, others, is && are
}

// all: what the words are, each read alike.
func all[T any](words []string, read func(string) (T, bool)) ([]T, bool) {
	l := make([]T, len(words))
	for i, w := range words {
		x, is := read(w)
		if !is {
			return nil, false
		}
		l[i] = x
	}
	return l, true
}
