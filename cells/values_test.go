package cells_test

import (
	"slices"
	"testing"

	"fugue/api"
	"fugue/cells"
)

// some: a memory with two globals, a gone cell 1, a cell 2 of two fields on the heap, and a cell 3 of one field of the frame that is there.
func some(t *testing.T) *cells.Memory {
	t.Helper()
	m := cells.New(2)
	push(t, m)
	makes(t, m, 1, false, 1)
	makes(t, m, 2, true, 2)
	pop(t, m)
	push(t, m)
	makes(t, m, 1, false, 3)
	stores(t, m, ptr(2), 0, num(20), api.OK)
	stores(t, m, ptr(3), 0, ptr(1), api.OK)
	sets(t, m, 1, num(70), api.OK)
	return m
}

func TestEveryRightValueIsKept(t *testing.T) {
	for _, v := range []api.Value{null, num(0), num(1), num(-1), num(1<<63 - 1), num(-1 << 63), ptr(1), ptr(2), ptr(3)} {
		m := some(t)
		stores(t, m, ptr(2), 1, v, api.OK)
		loads(t, m, ptr(2), 1, v)
		loads(t, m, ptr(2), 0, num(20))
		loads(t, m, ptr(3), 0, ptr(1))
		sets(t, m, 0, v, api.OK)
		global(t, m, 0, v)
		global(t, m, 1, num(70))
	}
}

func TestLaterStoresWin(t *testing.T) {
	m := some(t)
	stores(t, m, ptr(2), 1, ptr(2), api.OK) // to itself
	stores(t, m, ptr(2), 1, num(5), api.OK)
	stores(t, m, ptr(2), 1, null, api.OK)
	loads(t, m, ptr(2), 1, null)
	stores(t, m, ptr(2), 1, ptr(3), api.OK)
	loads(t, m, ptr(2), 1, ptr(3))
	sets(t, m, 0, ptr(2), api.OK)
	sets(t, m, 0, num(6), api.OK)
	global(t, m, 0, num(6))
	sets(t, m, 0, null, api.OK)
	global(t, m, 0, null)
}

// What a pointer tells does not hang on where it stands, nor does it change because its cell goes.
func TestPointersToCellsThatGo(t *testing.T) {
	m := some(t)
	stores(t, m, ptr(2), 1, ptr(3), api.OK)
	sets(t, m, 0, ptr(3), api.OK)
	pop(t, m)
	loads(t, m, ptr(2), 1, ptr(3))
	global(t, m, 0, ptr(3))
	loadsNone(t, m, ptr(3), 0, api.ErrDangle)
	stores(t, m, ptr(3), 0, null, api.ErrDangle)
	stores(t, m, ptr(2), 0, ptr(3), api.OK)
	loads(t, m, ptr(2), 0, ptr(3))
	sets(t, m, 1, ptr(3), api.OK)
	global(t, m, 1, ptr(3))
	drops(t, m, api.OK, 2)
	sets(t, m, 0, ptr(2), api.OK)
	global(t, m, 0, ptr(2))
	loadsNone(t, m, ptr(2), 0, api.ErrDangle)
}

// Which error is answered, of several that would fit the first of the chapter; and nothing changes.
func TestLoadAndStoreErrors(t *testing.T) {
	type call struct {
		v     api.Value
		field int
		want  api.Errno
	}
	calls := []call{
		{null, 0, api.ErrNil}, {null, -1, api.ErrNil}, {null, 9, api.ErrNil},
		{num(2), 0, api.ErrNil}, {num(0), 0, api.ErrNil}, {num(-7), 2, api.ErrNil},
		{ptr(1), 0, api.ErrDangle}, {ptr(1), 1, api.ErrDangle}, {ptr(1), -1, api.ErrDangle},
		{ptr(2), 2, api.ErrNoField}, {ptr(2), -1, api.ErrNoField}, {ptr(2), 1 << 62, api.ErrNoField}, {ptr(2), -1 << 63, api.ErrNoField},
		{ptr(3), 1, api.ErrNoField},
	}
	for _, v := range wrongs(3) {
		calls = append(calls, call{v, 0, api.ErrArg}, call{v, -1, api.ErrArg}, call{v, 9, api.ErrArg})
	}
	m := some(t)
	was := told(m, 3)
	for _, c := range calls {
		loadsNone(t, m, c.v, c.field, c.want)
		for _, w := range []api.Value{null, num(1), ptr(1), ptr(3)} {
			stores(t, m, c.v, c.field, w, c.want)
		}
		for _, w := range wrongs(3) {
			stores(t, m, c.v, c.field, w, api.ErrArg)
		}
	}
	for _, w := range wrongs(3) {
		stores(t, m, ptr(2), 0, w, api.ErrArg)
		stores(t, m, ptr(3), 0, w, api.ErrArg)
	}
	if !slices.Equal(told(m, 3), was) {
		t.Errorf("P3.5 a Load or Store with an error has changed something")
	}
	makes(t, m, 1, true, 4)
}

func TestGlobals(t *testing.T) {
	for _, c := range []struct{ asked, want int }{{-1 << 63, 0}, {-1, 0}, {0, 0}, {1, 1}, {15, 15}, {16, 16}, {17, 16}, {1<<63 - 1, 16}} {
		m := cells.New(c.asked)
		for n := range c.want {
			global(t, m, n, null)
		}
		for n := range c.want {
			sets(t, m, n, num(n+1), api.OK)
		}
		for n := range c.want {
			global(t, m, n, num(n+1))
		}
		for _, n := range []int{-1 << 63, -1, c.want, c.want + 1, 1 << 62} {
			if v, e := m.Global(n); v != null || e != api.ErrArg {
				t.Errorf("P3.6 New(%d), Global(%d): %v, %d, want nil, 1", c.asked, n, v, e)
			}
			sets(t, m, n, num(9), api.ErrArg)
			sets(t, m, n, ptr(9), api.ErrArg)
		}
		for n := range c.want {
			global(t, m, n, num(n+1))
		}
	}
}

func TestGlobalsTakeNoWrongValue(t *testing.T) {
	m := some(t)
	was := told(m, 3)
	for _, v := range wrongs(3) {
		sets(t, m, 0, v, api.ErrArg)
		sets(t, m, 1, v, api.ErrArg)
	}
	if !slices.Equal(told(m, 3), was) {
		t.Errorf("P3.6 a SetGlobal with an error has changed something")
	}
}

func TestGlobalsStayWhenFramesGo(t *testing.T) {
	m := some(t)
	sets(t, m, 0, ptr(3), api.OK)
	pop(t, m)
	global(t, m, 0, ptr(3))
	global(t, m, 1, num(70))
}
