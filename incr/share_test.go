package incr_test

import (
	"math/rand"
	"reflect"
	"slices"
	"testing"

	"fugue/api"
	"fugue/incr"
)

const mark = -77 // stands in spare room

// roomy: the same list with spare room behind it, in which more stands.
func roomy[T any](l []T, more T) []T {
	return append(append(make([]T, 0, len(l)+3), l...), more, more, more)[:len(l)]
}

func fill[T any](l []T, x T) {
	l = l[:cap(l)]
	for i := range l {
		l[i] = x
	}
}

// full: a list with its spare room, in new memory.
func full[T any](l []T) []T { return slices.Clone(l[:cap(l)]) }

// roomyFuncs: the same functions; in the spare room behind them, and behind their code, stands what would be right there too.
func roomyFuncs(l []api.Func) []api.Func {
	l = slices.Clone(l)
	for i, f := range l {
		c := slices.Clone(f.Code)
		for at, x := range c {
			c[at].Args, c[at].Rets = roomy(x.Args, mark), roomy(x.Rets, mark)
		}
		l[i].Code = roomy(c, api.Instr{Op: api.Jump})
	}
	return roomy(l, api.Func{Code: []api.Instr{ret()}})
}

// inFuncs: all that stands there, in spare room too, in new memory.
func inFuncs(l []api.Func) []api.Func {
	l = full(l)
	for i, f := range l {
		c := full(f.Code)
		for at, x := range c {
			c[at].Args, c[at].Rets = full(x.Args), full(x.Rets)
		}
		l[i].Code = c
	}
	return l
}

// spoilFuncs: nothing is left of functions, in spare room neither.
func spoilFuncs(l []api.Func) {
	for _, f := range l[:cap(l)] {
		for _, x := range f.Code[:cap(f.Code)] {
			fill(x.Args, mark)
			fill(x.Rets, mark)
		}
		fill(f.Code, api.Instr{Op: api.Call, N: mark})
	}
	fill(l, api.Func{Vars: mark})
}

// spoilResult: nothing is left of a result, in spare room neither.
func spoilResult(r api.Result) {
	for _, s := range r.Sums[:cap(r.Sums)] {
		fill(s.Heap, mark)
		for _, l := range s.Result[:cap(s.Result)] {
			fill(l, mark)
		}
		fill(s.Result, []int{mark})
	}
	for _, lists := range [][][]bool{r.Vars, r.Code} {
		for _, l := range lists[:cap(lists)] {
			l = l[:cap(l)]
			for i := range l {
				l[i] = !l[i]
			}
		}
		fill(lists, []bool{true})
	}
	fill(r.Sums, api.Summary{Heap: []int{mark}})
}

func spoilLists(l [][]int) {
	for _, x := range l[:cap(l)] {
		fill(x, mark)
	}
	fill(l, []int{mark})
}

// handed: a program, and changes one behind the other, each list with spare room.
type handed struct {
	p  api.Program
	at [][]int
	fs [][]api.Func
}

func anyHanded(seed int) handed {
	r := rand.New(rand.NewSource(int64(seed)))
	p := anyProgram(r, 1+seed%8)
	h := handed{p: api.Program{Globals: p.Globals, Funcs: roomyFuncs(p.Funcs)}}
	for range 6 {
		at, fs := anyChange(r, p)
		p = changed(p, at, fs)
		h.at, h.fs = append(h.at, roomy(at, 0)), append(h.fs, roomyFuncs(fs))
	}
	return h
}

// inIt: all that stands in it, in spare room too.
func (h handed) inIt() handed {
	c := handed{p: api.Program{Globals: h.p.Globals, Funcs: inFuncs(h.p.Funcs)}}
	for i := range h.at {
		c.at, c.fs = append(c.at, full(h.at[i])), append(c.fs, inFuncs(h.fs[i]))
	}
	return c
}

func TestArgumentsStay(t *testing.T) {
	for seed := range 300 {
		h := anyHanded(seed)
		before := h.inIt()
		is := func(what string) {
			t.Helper()
			if !reflect.DeepEqual(h.inIt(), before) {
				t.Fatalf("R5: seed %d: %s", seed, what)
			}
		}
		s, _ := incr.New(h.p)
		is("New changed its argument")
		for i := range h.at {
			l, e := s.Change(h.at[i], h.fs[i])
			is("Change changed an argument")
			if e != api.OK {
				t.Fatalf("P20.2: seed %d: error %d", seed, e)
			}
			spoilLists(l)
			s.Change(h.at[i], h.fs[i][:0]) // refused ones neither
			s.Change(append(slices.Clone(h.at[i]), -1), append(slices.Clone(h.fs[i]), api.Func{}))
			s.Change([]int{0}, []api.Func{{Code: []api.Instr{{Op: mark}}}})
			spoilFuncs(s.Program().Funcs)
			spoilResult(s.Result())
			is("an answer shares memory with an argument")
		}
	}
}

// What becomes of what was handed in, and of what was answered, is seen in no answer, and changes nothing of what the next change solves anew.
func TestNothingIsShared(t *testing.T) {
	for seed := range 300 {
		h, plain := anyHanded(seed), anyHanded(seed)
		s, _ := incr.New(h.p)
		twin := begun(t, plain.p)
		spoilFuncs(h.p.Funcs)
		stands(t, "New's argument was spoilt", s, twin.Program())
		var lists [][][]int
		for i := range h.at {
			l, _ := s.Change(h.at[i], h.fs[i])
			want, _ := twin.Change(plain.at[i], plain.fs[i])
			if !alikeLists(l, want) {
				t.Fatalf("R5: seed %d: %v, where nothing is spoilt %v", seed, l, want)
			}
			fill(h.at[i], mark)
			spoilFuncs(h.fs[i])
			lists = append(lists, l)
			stands(t, "Change's arguments were spoilt", s, twin.Program())
			p, r := s.Program(), s.Result()
			q, u := s.Program(), s.Result()
			spoilFuncs(p.Funcs)
			spoilResult(r)
			if !alikeProgram(q, twin.Program()) || !alikeResult(u, twin.Result()) {
				t.Fatalf("R5: seed %d: two answers share memory", seed)
			}
			stands(t, "answers were spoilt", s, twin.Program())
			if i%2 == 0 {
				spoilLists(l)
			}
		}
		for i := 1; i < len(lists); i += 2 {
			for _, members := range lists[i] {
				if slices.Contains(members, mark) {
					t.Fatalf("R5: seed %d: two answers of Change share memory", seed)
				}
			}
		}
	}
}

// An answer stays what it was, whatever changes behind it.
func TestAnswersStay(t *testing.T) {
	for seed := range 200 {
		h := anyHanded(seed)
		s := begun(t, h.p)
		var programs, programsWere []api.Program
		var results, resultsWere []api.Result
		for i := range h.at {
			programs, results = append(programs, s.Program()), append(results, s.Result())
			programsWere, resultsWere = append(programsWere, s.Program()), append(resultsWere, solved(t, s.Program()))
			s.Change(h.at[i], h.fs[i])
		}
		if !slices.EqualFunc(programs, programsWere, alikeProgram) || !slices.EqualFunc(results, resultsWere, alikeResult) {
			t.Fatalf("R5: seed %d: an answer has changed with the session", seed)
		}
	}
}

// ownRooms: no two lists share memory, spare room too: each is filled with its number, which then stands there still.
func ownRooms[T any](t *testing.T, what string, lists [][]T, number func(int) T, is func(T, int) bool) {
	t.Helper()
	for i, l := range lists {
		fill(l, number(i))
	}
	for i, l := range lists {
		for _, x := range l[:cap(l)] {
			if !is(x, i) {
				t.Fatalf("R5: %s: the list %d shares memory with another", what, i)
			}
		}
	}
}

func ownNumbers(t *testing.T, what string, lists [][]int) {
	t.Helper()
	ownRooms(t, what, lists, func(i int) int { return i }, func(x, i int) bool { return x == i })
}

// No two lists of one answer share memory.
func TestListsOfOneAnswer(t *testing.T) {
	for seed := range 200 {
		h := anyHanded(seed)
		if len(h.p.Funcs) > 1 { // the same memory twice: a session has two of it
			h.p.Funcs[1] = h.p.Funcs[0]
			if _, e := incr.New(h.p); e != api.OK {
				continue
			}
		}
		s := begun(t, h.p)
		for i := range h.at {
			if l, e := s.Change(h.at[i], h.fs[i]); e == api.OK {
				ownNumbers(t, "Change", l)
			}
			var numbers [][]int
			var codes [][]api.Instr
			for _, f := range s.Program().Funcs {
				codes = append(codes, f.Code)
				for _, x := range f.Code {
					numbers = append(numbers, x.Args, x.Rets)
				}
			}
			ownNumbers(t, "Program", numbers)
			ownRooms(t, "Program", codes, func(i int) api.Instr { return api.Instr{N: i} }, func(x api.Instr, i int) bool { return x.N == i })
			r := s.Result()
			numbers = nil
			for _, x := range r.Sums {
				numbers = append(append(numbers, x.Heap), x.Result...)
			}
			ownNumbers(t, "Result", numbers)
			truths := append(slices.Clone(r.Vars), r.Code...)
			for bit := 1; bit <= len(truths); bit *= 2 { // a truth holds no number: bit by bit
				has := func(i int) bool { return i&bit > 0 }
				ownRooms(t, "Result", truths, has, func(x bool, i int) bool { return x == has(i) })
			}
			ownRooms(t, "Result", [][][]bool{r.Vars, r.Code}, func(i int) []bool { return make([]bool, i) }, func(x []bool, i int) bool { return len(x) == i })
		}
	}
}

// One function's memory at several numbers: each has its own from then on.
func TestOneFunctionAtSeveralNumbers(t *testing.T) {
	s := begun(t, ones(t, back, back, back))
	f := one(t, store)
	solves(t, "one function thrice", s, []int{2, 0, 3}, []api.Func{f, f, f}, []int{0}, []int{2}, []int{3})
	p := s.Program()
	p.Funcs[0].Code[1].Args[0] = 2
	f.Code[1].Args[0] = 1
	if p.Funcs[2].Code[1].Args[0] != 0 || p.Funcs[3].Code[1].Args[0] != 0 {
		t.Errorf("R5: functions of one answer share memory")
	}
	stands(t, "one function thrice", s, ones(t, store, back, store, store))
}

// Two sessions know nothing of each other, of one program and of two.
func TestTwoSessions(t *testing.T) {
	for seed := range 200 {
		h, other := anyHanded(seed), anyHanded(seed+seed%2)
		one, two := begun(t, h.p), begun(t, other.p)
		alone := begun(t, anyHanded(seed).p)
		p := two.Program()
		for i := range h.at {
			want, _ := alone.Change(h.at[i], h.fs[i])
			l, _ := one.Change(h.at[i], h.fs[i])
			if !alikeLists(l, want) || !alikeResult(one.Result(), alone.Result()) {
				t.Fatalf("R6: seed %d: beside another session: %v, alone: %v", seed, l, want)
			}
			stands(t, "the other session", two, p)
			if i%2 == 0 {
				two.Change(other.at[i/2], other.fs[i/2])
				p = two.Program()
			}
		}
	}
}

// Sessions that are used at one time, each by one goroutine, answer as they do by themselves; one that nobody changes may be asked by several.
func TestAtOneTime(t *testing.T) {
	for seed := range 10 {
		h := anyHanded(seed)
		quiet := begun(t, h.p)
		p, r := quiet.Program(), quiet.Result()
		last := begun(t, h.p)
		for i := range h.at {
			last.Change(h.at[i], h.fs[i])
		}
		want := last.Result()
		good := make(chan bool)
		for range 8 {
			go func() {
				is := true
				for range 20 {
					s, _ := incr.New(h.p)
					for i := range h.at {
						s.Change(h.at[i], h.fs[i])
					}
					is = is && alikeResult(s.Result(), want) && alikeProgram(quiet.Program(), p) && alikeResult(quiet.Result(), r)
				}
				good <- is
			}()
		}
		for range 8 {
			if !<-good {
				t.Errorf("R6: seed %d: at one time it answers otherwise", seed)
			}
		}
	}
}
