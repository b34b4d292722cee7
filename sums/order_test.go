package sums_test

import (
	"math/rand"
	"testing"

	"fugue/api"
	"fugue/sums"
)

func TestMeetOfTheExample(t *testing.T) {
	_, s := pair()
	other := sum([]int{1, 1}, []int{none}, []int{0})
	m := sum([]int{0, 1}, []int{2}, []int{0})
	meets(t, "the example", s, other, m)
	meets(t, "the example, the other way round", other, s, m)
	above(t, "the Meet and it", m, s, true)
	above(t, "it and the Meet", s, m, false)
	above(t, "the Meet and the other", m, other, true)
	above(t, "the other and the Meet", other, m, false)
	above(t, "neither", s, other, false)
	above(t, "neither", other, s, false)
	apart(t, "another shape", s, sum([]int{0}, []int{2}))
}

// In each place alone: what is less there is above, what is more is not.
func TestOnePlaceAlone(t *testing.T) {
	f := api.Func{Params: 2, Results: 2}
	numbers := []int{0, 1, 2, 3, none}
	for at := range places(every(f, 0)) {
		for _, x := range numbers {
			for _, y := range numbers {
				a, b, m := every(f, 2), every(f, 2), every(f, 2)
				*places(a)[at], *places(b)[at], *places(m)[at] = x, y, min(x, y)
				above(t, "one place", a, b, x <= y)
				meets(t, "one place", a, b, m)
			}
		}
	}
}

// How many numbers and lists there are is of no matter where both have as many: Above and Meet know no function.
func TestShapesOfNoFunction(t *testing.T) {
	few := sum([]int{1}, []int{2, 3, 0}, nil, []int{none})
	many := sum(nil, []int{2, 3, 0, 1, 1, 1, 1, 1, 1})
	for _, s := range []api.Summary{few, many, sum([]int{0, 1, 2, 3, 0, 1, 2, 3, 9, 9}), sum(nil, nil, nil)} {
		above(t, "itself", s, s, true)
		meets(t, "itself", s, s, s)
	}
	apart(t, "as many numbers", few, sum([]int{1}, []int{2, 3}, []int{0}, []int{none}))
	apart(t, "a list less", few, sum([]int{1}, []int{2, 3, 0}, nil))
	apart(t, "an empty list more", sum(nil, nil), sum(nil))
	meets(t, "the lesser of each", few, sum([]int{0}, []int{3, 2, 0}, nil, []int{3}), sum([]int{0}, []int{2, 2, 0}, nil, []int{3}))
}

// A number that may not be is refused in either summary, though the other is less, more or alike there.
func TestNumbersOnBothSides(t *testing.T) {
	for x := -2; x <= 11; x++ {
		for y := -2; y <= 11; y++ {
			may := func(n int) bool { return n >= 0 && n <= 3 || n == none }
			for _, s := range [][2]api.Summary{
				{sum([]int{x}, nil), sum([]int{y}, nil)},
				{sum([]int{1}, []int{x}), sum([]int{1}, []int{y})},
				{sum([]int{1, 1}, []int{0}, []int{0, x}), sum([]int{1, 1}, []int{0}, []int{0, y})},
			} {
				if may(x) && may(y) {
					above(t, "two numbers", s[0], s[1], x <= y)
				} else {
					apart(t, "two numbers", s[0], s[1])
				}
			}
		}
	}
}

// all: every summary of the shape.
func all(f api.Func) []api.Summary {
	l := []api.Summary{every(f, 0)}
	for at := range places(l[0]) {
		var more []api.Summary
		for _, s := range l {
			for _, n := range []int{0, 1, 2, 3, none} {
				c := every(f, 0)
				for i, place := range places(c) {
					*place = *places(s)[i]
				}
				*places(c)[at] = n
				more = append(more, c)
			}
		}
		l = more
	}
	return l
}

// Above is an order, and Meet is below all that is above both: of all triples of a small shape.
func TestAnOrder(t *testing.T) {
	for _, f := range []api.Func{{Params: 1, Results: 1}, {Params: 2}} {
		l := all(f)
		for _, a := range l {
			for _, b := range l {
				m, e := sums.Meet(a, b)
				if e != api.OK || !sums.Above(m, a) || !sums.Above(m, b) {
					t.Fatalf("P9.3: Meet of %v and %v: %v, error %d", a, b, m, e)
				}
				if sums.Above(a, b) && sums.Above(b, a) != alike(a, b) || sums.Above(a, b) != alike(m, a) {
					t.Fatalf("P9.2: Above of %v and %v", a, b)
				}
				for _, c := range l {
					if sums.Above(c, a) && sums.Above(c, b) != sums.Above(c, m) {
						t.Fatalf("P9.3: %v is above %v and %v, not above their Meet %v", c, a, b, m)
					}
					if sums.Above(a, b) && sums.Above(b, c) && !sums.Above(a, c) {
						t.Fatalf("P9.2: %v is above %v, that above %v", a, b, c)
					}
				}
			}
		}
	}
}

// Greater shapes, as they come: number by number.
func TestAnySummaries(t *testing.T) {
	r := rand.New(rand.NewSource(1))
	for range 20000 {
		f := api.Func{Params: r.Intn(9), Results: r.Intn(5)}
		a, b, m := anySummary(r, f), anySummary(r, f), every(f, 0)
		if r.Intn(2) == 0 {
			b, _ = sums.Meet(a, b)
		}
		want := true
		for i, place := range places(m) {
			x, y := *places(a)[i], *places(b)[i]
			*place = min(x, y)
			want = want && x <= y
		}
		above(t, "any", a, b, want)
		meets(t, "any", a, b, m)
	}
}
