package front

import "fugue/api"

// value: an int, or a pointer to a cell: its fields, of which there is one at least, so that each cell is told from others.
type value struct {
	n  int
	to []value
}

func (v value) isNull() bool { return v.to == nil }

func (v value) isTrue() bool { return v.n != 0 || !v.isNull() }

// same: as ints or as pointers, whichever both are.
func (v value) same(w value) bool {
	if v.isNull() || w.isNull() {
		return v.n == w.n && v.isNull() == w.isNull()
	}
	return &v.to[0] == &w.to[0]
}

// told: as a trace has it.
func (v value) told(k kind) api.Value {
	switch {
	case k.isInt():
		return api.Value{Kind: api.Num, N: v.n}
	case v.isNull():
		return api.Value{}
	}
	return api.Value{Kind: api.Ptr}
}

func truth(is bool) value {
	if is {
		return value{n: 1}
	}
	return value{}
}

// with: the sum of two values, or how they stand to each other.
func (v value) with(sign string, w value) value {
	switch sign {
	case "+":
		return value{n: v.n + w.n}
	case "<":
		return truth(v.n < w.n)
	}
	return truth(v.same(w))
}
