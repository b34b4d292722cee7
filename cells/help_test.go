package cells_test

import (
	"slices"
	"testing"

	"fugue/api"
	"fugue/cells"
)

var null = api.Value{}

func num(n int) api.Value { return api.Value{Kind: api.Num, N: n} }

func ptr(n int) api.Value { return api.Value{Kind: api.Ptr, N: n} }

// wrongs: values that are right for no memory in which so many cells were made.
func wrongs(made int) []api.Value {
	return []api.Value{
		{Kind: api.Nil, N: 1}, {Kind: api.Nil, N: -1},
		ptr(0), ptr(-1), ptr(made + 1), ptr(1 << 62), ptr(-1 << 63),
		{Kind: 3}, {Kind: 3, N: 1}, {Kind: -1}, {Kind: 1 << 62, N: 1}, {Kind: -1 << 63},
	}
}

func is(t *testing.T, what string, got, want api.Errno) {
	t.Helper()
	if got != want {
		t.Errorf("%s: %d, want %d", what, got, want)
	}
}

func push(t *testing.T, m *cells.Memory) {
	t.Helper()
	is(t, "P3.2 Push", m.Push(), api.OK)
}

func pop(t *testing.T, m *cells.Memory) {
	t.Helper()
	is(t, "P3.2 Pop", m.Pop(), api.OK)
}

// makes asks Make for a cell and holds its number against what it must be.
func makes(t *testing.T, m *cells.Memory, fields int, heap bool, want int) {
	t.Helper()
	if n, e := m.Make(fields, heap); n != want || e != api.OK {
		t.Errorf("P3.3 Make(%d, %v): %d, %d, want %d", fields, heap, n, e, want)
	}
}

func makesNone(t *testing.T, m *cells.Memory, fields int, heap bool, want api.Errno) {
	t.Helper()
	if n, e := m.Make(fields, heap); n != 0 || e != want {
		t.Errorf("P3.3 Make(%d, %v): %d, %d, want 0, %d", fields, heap, n, e, want)
	}
}

func loads(t *testing.T, m *cells.Memory, v api.Value, field int, want api.Value) {
	t.Helper()
	if w, e := m.Load(v, field); w != want || e != api.OK {
		t.Errorf("P3.4 Load(%v, %d): %v, %d, want %v", v, field, w, e, want)
	}
}

func loadsNone(t *testing.T, m *cells.Memory, v api.Value, field int, want api.Errno) {
	t.Helper()
	if w, e := m.Load(v, field); w != null || e != want {
		t.Errorf("P3.4 Load(%v, %d): %v, %d, want nil, %d", v, field, w, e, want)
	}
}

func stores(t *testing.T, m *cells.Memory, v api.Value, field int, w api.Value, want api.Errno) {
	t.Helper()
	if e := m.Store(v, field, w); e != want {
		t.Errorf("P3.5 Store(%v, %d, %v): %d, want %d", v, field, w, e, want)
	}
}

func global(t *testing.T, m *cells.Memory, n int, want api.Value) {
	t.Helper()
	if v, e := m.Global(n); v != want || e != api.OK {
		t.Errorf("P3.6 Global(%d): %v, %d, want %v", n, v, e, want)
	}
}

func sets(t *testing.T, m *cells.Memory, n int, v api.Value, want api.Errno) {
	t.Helper()
	if e := m.SetGlobal(n, v); e != want {
		t.Errorf("P3.6 SetGlobal(%d, %v): %d, want %d", n, v, e, want)
	}
}

func lives(t *testing.T, m *cells.Memory, want ...int) {
	t.Helper()
	if l := m.Live(); !slices.Equal(l, want) {
		t.Errorf("P3.7 Live: %v, want %v", l, want)
	}
}

func drops(t *testing.T, m *cells.Memory, want api.Errno, numbers ...int) {
	t.Helper()
	if e := m.Drop(numbers...); e != want {
		t.Errorf("P3.8 Drop(%v): %d, want %d", numbers, e, want)
	}
}

// told: what a memory tells of itself: its globals, which of the cells 1 to made are there, and all their fields.
func told(m *cells.Memory, made int) []api.Value {
	var out []api.Value
	for n := range api.MaxGlobals {
		v, e := m.Global(n)
		out = append(out, v, num(int(e)))
	}
	for _, n := range m.Live() {
		out = append(out, num(n))
	}
	for n := range made {
		for field := range api.MaxFields {
			v, e := m.Load(ptr(n+1), field)
			out = append(out, v, num(int(e)))
		}
	}
	return out
}
