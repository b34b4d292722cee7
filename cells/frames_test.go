package cells_test

import (
	"testing"

	"fugue/api"
	"fugue/cells"
)

// The chapter's three examples, one behind the other.
func TestExamples(t *testing.T) {
	m := cells.New(2)
	push(t, m)
	makes(t, m, 1, false, 1)
	makes(t, m, 2, true, 2)
	loads(t, m, ptr(1), 0, null)
	stores(t, m, ptr(2), 1, ptr(1), api.OK)
	loadsNone(t, m, ptr(2), 2, api.ErrNoField)
	loadsNone(t, m, num(2), 0, api.ErrNil)
	loadsNone(t, m, null, 0, api.ErrNil)
	loadsNone(t, m, ptr(3), 0, api.ErrArg)
	loadsNone(t, m, api.Value{N: 1}, 0, api.ErrArg)

	pop(t, m)
	lives(t, m, 2)
	loadsNone(t, m, ptr(1), 9, api.ErrDangle)
	makesNone(t, m, 1, true, api.ErrFrame)
	makesNone(t, m, 0, true, api.ErrArg)
	is(t, "P3.2 Pop", m.Pop(), api.ErrFrame)
	push(t, m)
	makes(t, m, 1, false, 3)
	loads(t, m, ptr(2), 1, ptr(1))

	drops(t, m, api.OK, 2, 3)
	drops(t, m, api.ErrDangle, 2)
	drops(t, m, api.ErrArg, 4)
	drops(t, m, api.OK)
	sets(t, m, 1, ptr(2), api.OK)
	sets(t, m, 2, null, api.ErrArg)
	if v, e := m.Global(-1); v != null || e != api.ErrArg {
		t.Errorf("P3.6 Global(-1): %v, %d", v, e)
	}
}

func TestNewHasNoFramesAndNoCells(t *testing.T) {
	for _, globals := range []int{-1, 0, 1, 16, 17} {
		m := cells.New(globals)
		if m == nil {
			t.Fatalf("P3.1 New(%d): nil", globals)
		}
		lives(t, m)
		is(t, "P3.1 Pop of a new memory", m.Pop(), api.ErrFrame)
		makesNone(t, m, 1, false, api.ErrFrame)
		loadsNone(t, m, ptr(1), 0, api.ErrArg)
		drops(t, m, api.ErrArg, 1)
		push(t, m)
		makes(t, m, 1, false, 1)
	}
}

func TestFramesComeAndGo(t *testing.T) {
	m := cells.New(0)
	const deep = 70000
	for range deep {
		push(t, m)
	}
	for range deep {
		pop(t, m)
	}
	is(t, "P3.2 Pop of no frame", m.Pop(), api.ErrFrame)
	is(t, "P3.2 Pop of no frame again", m.Pop(), api.ErrFrame)
	push(t, m)
	pop(t, m)
}

func TestPopTakesItsFramesCellsAlone(t *testing.T) {
	m := cells.New(0)
	push(t, m)
	makes(t, m, 1, false, 1)
	makes(t, m, 1, true, 2)
	push(t, m)
	makes(t, m, 1, true, 3)
	makes(t, m, 1, false, 4)
	push(t, m)
	push(t, m)
	makes(t, m, 1, false, 5)
	makes(t, m, 1, false, 6)
	lives(t, m, 1, 2, 3, 4, 5, 6)
	pop(t, m)
	lives(t, m, 1, 2, 3, 4)
	makes(t, m, 1, false, 7) // of the third frame, which had none till now
	pop(t, m)
	lives(t, m, 1, 2, 3, 4)
	makes(t, m, 1, false, 8) // of the second again, behind the ones above it
	push(t, m)
	pop(t, m)
	lives(t, m, 1, 2, 3, 4, 8)
	pop(t, m)
	lives(t, m, 1, 2, 3)
	pop(t, m)
	lives(t, m, 2, 3)
	push(t, m)
	makes(t, m, 1, false, 9) // no number comes again
	lives(t, m, 2, 3, 9)
	pop(t, m)
	lives(t, m, 2, 3)
}

func TestPopBehindDrops(t *testing.T) {
	m := cells.New(0)
	push(t, m)
	for i := range 6 {
		makes(t, m, 1, i == 2, i+1)
	}
	push(t, m)
	for i := range 6 {
		makes(t, m, 1, i == 2, i+7)
	}
	drops(t, m, api.OK, 12, 1, 7, 4, 9)
	lives(t, m, 2, 3, 5, 6, 8, 10, 11)
	makes(t, m, 1, false, 13)
	pop(t, m)
	lives(t, m, 2, 3, 5, 6)
	drops(t, m, api.OK, 3, 6, 2)
	makes(t, m, 1, false, 14)
	makes(t, m, 1, true, 15)
	pop(t, m)
	lives(t, m, 15)
	for n := range 14 {
		loadsNone(t, m, ptr(n+1), 0, api.ErrDangle)
	}
}

func TestMakeFields(t *testing.T) {
	m := cells.New(0)
	push(t, m)
	number := 0
	for fields := -1; fields <= api.MaxFields+1; fields++ {
		for _, heap := range []bool{false, true} {
			if fields < 1 || fields > api.MaxFields {
				makesNone(t, m, fields, heap, api.ErrArg)
				continue
			}
			number++
			makes(t, m, fields, heap, number)
			for field := range fields {
				loads(t, m, ptr(number), field, null)
			}
			loadsNone(t, m, ptr(number), -1, api.ErrNoField)
			loadsNone(t, m, ptr(number), fields, api.ErrNoField)
		}
	}
	for _, fields := range []int{1 << 62, -1 << 63} {
		makesNone(t, m, fields, true, api.ErrArg)
	}
	makes(t, m, 1, false, number+1) // what was refused took no number
}

func TestMakesErrorsInTheirOrder(t *testing.T) {
	m := cells.New(0)
	for _, fields := range []int{-1, 0, api.MaxFields + 1} {
		makesNone(t, m, fields, false, api.ErrArg)
		makesNone(t, m, fields, true, api.ErrArg)
	}
	for _, fields := range []int{1, api.MaxFields} {
		makesNone(t, m, fields, false, api.ErrFrame)
		makesNone(t, m, fields, true, api.ErrFrame)
	}
	push(t, m)
	pop(t, m)
	makesNone(t, m, 1, true, api.ErrFrame)
	push(t, m)
	makes(t, m, 1, true, 1)
}

func TestNilMemory(t *testing.T) {
	var m *cells.Memory
	is(t, "P3.2 Push of nil", m.Push(), api.ErrArg)
	is(t, "P3.2 Pop of nil", m.Pop(), api.ErrArg)
	makesNone(t, m, 1, false, api.ErrArg)
	makesNone(t, m, 0, true, api.ErrArg)
	for _, v := range append(wrongs(0), null, num(1), ptr(1)) {
		loadsNone(t, m, v, 0, api.ErrArg)
		stores(t, m, v, 0, null, api.ErrArg)
		stores(t, m, null, 0, v, api.ErrArg)
		sets(t, m, 0, v, api.ErrArg)
	}
	for _, n := range []int{-1, 0, 16} {
		if v, e := m.Global(n); v != null || e != api.ErrArg {
			t.Errorf("P3.6 Global(%d) of nil: %v, %d", n, v, e)
		}
	}
	lives(t, m)
	drops(t, m, api.ErrArg)
	drops(t, m, api.ErrArg, 1)
}
