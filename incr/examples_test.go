package incr_test

import (
	"testing"

	"fugue/api"
	"fugue/incr"
)

// chapter: 0 calls 1, 1 calls 2, 2 hands back what it is given; nobody calls 3.
func chapter(t *testing.T) *incr.Session {
	t.Helper()
	return begun(t, ones(t, "v1 = f1(v0);return v1", "v1 = f2(v0);return v1", "return v0", "v1 = v0;return v1"))
}

func TestFirstExample(t *testing.T) {
	s := chapter(t)
	becomes(t, "the same summary", s, 2, "v1 = v0;return v1", []int{2})
	becomes(t, "another one", s, 2, "g0 = v0;return v0", []int{2}, []int{1}, []int{0})
	s = begun(t, ones(t, "v1 = f1(v0);return v1", "g0 = v0;v1 = f2(v0);return v1", "return v0", "return v0"))
	becomes(t, "another one, which changes nothing at 1", s, 2, "g0 = v0;return v0", []int{2}, []int{1})
}

func TestSecondExample(t *testing.T) {
	s := chapter(t)
	becomes(t, "one that nobody calls", s, 3, "g0 = v0;return v1", []int{3})
	becomes(t, "a ring whose summaries are as they were", s, 2, "if v0 jump 3;v1 = f1(v0);return v1;return v0", []int{1, 2})
	s = chapter(t)
	becomes(t, "a ring whose summaries are others", s, 2, "g0 = v0;v1 = f1(v0);return v0", []int{1, 2}, []int{0})
	s = chapter(t)
	becomes(t, "a ring that never comes back", s, 2, "v1 = f1(v0);return v1", []int{1, 2}, []int{0})
}

func TestThirdExample(t *testing.T) {
	s := chapter(t)
	refuses(t, "5, with four functions", s, []int{5}, []api.Func{one(t, "return v0")}, api.ErrArg)
	solves(t, "4 and 5", s, []int{5, 4}, []api.Func{one(t, "return v0"), one(t, "g0 = v0;return v0")}, []int{4}, []int{5})
	if p := s.Program(); len(p.Funcs) != 6 || len(p.Funcs[4].Code) != 2 || len(p.Funcs[5].Code) != 1 {
		t.Errorf("P20.2: the functions stand in the places of one another: %+v", p)
	}
}

// What follows: without functions no component; the same function again: its component alone.
func TestWhatFollows(t *testing.T) {
	s := chapter(t)
	solves(t, "no function", s, nil, nil)
	solves(t, "no function", s, []int{}, []api.Func{})
	for f, x := range s.Program().Funcs {
		solves(t, "the same function again", s, []int{f}, []api.Func{x}, []int{f})
	}
	becomes(t, "another one behind all this", s, 2, "return v1", []int{2}, []int{1}, []int{0})
	solves(t, "no function", s, nil, nil)
}
