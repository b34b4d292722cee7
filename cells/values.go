package cells

import "fugue/api"

// right: is this a value of this memory? Of a nil memory none is.
func (m *Memory) right(v api.Value) bool {
	if m == nil {
		return false
	}
	switch v.Kind {
	case api.Nil:
		return v.N == 0
	case api.Num:
		return true
	case api.Ptr:
		return m.wasMade(v.N)
	}
	return false
}

func (m *Memory) wasMade(n int) bool { return n >= 1 && n <= m.made }

func (m *Memory) isThere(n int) bool {
	_, ok := m.there[n]
	return ok
}

func (m *Memory) hasGlobal(n int) bool {
	return m != nil && n >= 0 && n < len(m.globals)
}

// follow: the fields of the cell that a right value points to, if it has the one that is asked for.
func (m *Memory) follow(v api.Value, field int) ([]api.Value, api.Errno) {
	if v.Kind != api.Ptr {
		return nil, api.ErrNil
	}
	fields, ok := m.there[v.N]
	if !ok {
		return nil, api.ErrDangle
	}
	if field < 0 || field >= len(fields) {
		return nil, api.ErrNoField
	}
	return fields, api.OK
}
