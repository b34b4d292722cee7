package cells_test

import (
	"slices"
	"testing"

	"fugue/api"
	"fugue/cells"
)

// five: a memory in whose one frame the cells 1 to 5 were made, the even ones on the heap, of which 3 was dropped.
func five(t *testing.T) *cells.Memory {
	t.Helper()
	m := cells.New(0)
	push(t, m)
	for n := 1; n <= 5; n++ {
		makes(t, m, n, n%2 == 0, n)
		stores(t, m, ptr(n), n-1, num(n), api.OK)
	}
	drops(t, m, api.OK, 3)
	return m
}

func TestDrop(t *testing.T) {
	for _, c := range []struct{ drop, left []int }{
		{nil, []int{1, 2, 4, 5}},
		{[]int{}, []int{1, 2, 4, 5}},
		{[]int{1}, []int{2, 4, 5}},
		{[]int{4}, []int{1, 2, 5}},
		{[]int{5, 2}, []int{1, 4}},
		{[]int{4, 1, 5, 2}, nil},
	} {
		m := five(t)
		drops(t, m, api.OK, c.drop...)
		lives(t, m, c.left...)
		for n := 1; n <= 5; n++ {
			if slices.Contains(c.left, n) {
				loads(t, m, ptr(n), n-1, num(n))
			} else {
				loadsNone(t, m, ptr(n), n-1, api.ErrDangle)
				drops(t, m, api.ErrDangle, n)
			}
		}
		makes(t, m, 1, false, 6)
	}
}

func TestDropsErrorsInTheirOrder(t *testing.T) {
	for _, c := range []struct {
		drop []int
		want api.Errno
	}{
		{[]int{0}, api.ErrArg}, {[]int{-1}, api.ErrArg}, {[]int{6}, api.ErrArg}, {[]int{1 << 62}, api.ErrArg}, {[]int{-1 << 63}, api.ErrArg},
		{[]int{1, 2, 6}, api.ErrArg}, {[]int{0, 1, 2}, api.ErrArg}, {[]int{1, 6, 2}, api.ErrArg},
		{[]int{3, 6}, api.ErrArg}, {[]int{6, 3}, api.ErrArg}, {[]int{0, 3}, api.ErrArg}, {[]int{3, 0}, api.ErrArg},
		{[]int{1, 1, 6}, api.ErrArg}, {[]int{6, 6}, api.ErrArg}, {[]int{0, 1, 1}, api.ErrArg},
		{[]int{3}, api.ErrDangle}, {[]int{3, 3}, api.ErrDangle},
		{[]int{1, 2, 3}, api.ErrDangle}, {[]int{3, 4, 5}, api.ErrDangle}, {[]int{5, 3, 1}, api.ErrDangle},
		{[]int{1, 1}, api.ErrDangle}, {[]int{1, 2, 1}, api.ErrDangle}, {[]int{5, 4, 2, 1, 5}, api.ErrDangle}, {[]int{2, 2, 4, 5}, api.ErrDangle},
	} {
		m := five(t)
		was := told(m, 5)
		drops(t, m, c.want, c.drop...)
		if !slices.Equal(told(m, 5), was) {
			t.Errorf("P3.8 Drop(%v) has an error, and has changed something", c.drop)
		}
		makes(t, m, 1, true, 6)
		pop(t, m)
		lives(t, m, 2, 4, 6)
	}
}

func TestDropWithoutAFrame(t *testing.T) {
	m := five(t)
	pop(t, m)
	drops(t, m, api.ErrDangle, 2, 5)
	lives(t, m, 2, 4)
	drops(t, m, api.OK, 4)
	lives(t, m, 2)
	drops(t, m, api.OK)
}

func TestDropOfAnOlderFramesCells(t *testing.T) {
	m := five(t)
	push(t, m)
	makes(t, m, 1, false, 6)
	drops(t, m, api.OK, 1, 2)
	lives(t, m, 4, 5, 6)
	pop(t, m)
	lives(t, m, 4, 5)
	pop(t, m)
	lives(t, m, 4)
}

func TestLiveRises(t *testing.T) {
	m := cells.New(0)
	var want []int
	push(t, m)
	for n := 1; n <= 3000; n++ {
		makes(t, m, 1, n%3 == 0, n)
		if n%5 == 0 {
			drops(t, m, api.OK, n)
		} else {
			want = append(want, n)
		}
	}
	for range 5 {
		lives(t, m, want...)
	}
	pop(t, m)
	lives(t, m, slices.DeleteFunc(want, func(n int) bool { return n%3 != 0 })...)
}
