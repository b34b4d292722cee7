package sums

import "fugue/api"

// magic is what every result's bytes begin with.
const magic = "fg\x01"

// layOpening, layHead: what a program alone says of its results' bytes. Whoever writes lays it, whoever reads asks for just these bytes.
func layOpening(b []byte, p api.Program) []byte {
	return layTwo(append(b, magic...), len(p.Funcs))
}

func layHead(b []byte, f api.Func) []byte {
	b = append(b, byte(f.Params), byte(f.Results), byte(f.Vars))
	return layTwo(b, news(f))
}

func layTwo(b []byte, n int) []byte { return append(b, byte(n), byte(n>>8)) }

func laySummary(b []byte, s api.Summary) []byte {
	for i, n := range s.Heap {
		b = append(b, byte(n))
		for _, n := range s.Result[i] {
			b = append(b, byte(n))
		}
	}
	return b
}

// layBits: eight a byte, the first the lowest; the last byte's bits that are none stay 0.
func layBits(b []byte, l []bool) []byte {
	for i, on := range l {
		if i%8 == 0 {
			b = append(b, 0)
		}
		if on {
			b[len(b)-1] |= 1 << (i % 8)
		}
	}
	return b
}

func news(f api.Func) int {
	n := 0
	for _, in := range f.Code {
		if in.Op == api.New {
			n++
		}
	}
	return n
}

// atNews: of a bool for each instruction those of the News.
func atNews(f api.Func, on []bool) []bool {
	var l []bool
	for at, in := range f.Code {
		if in.Op == api.New {
			l = append(l, on[at])
		}
	}
	return l
}
