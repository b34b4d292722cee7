package shell

import (
	"strconv"
	"strings"

	"fugue/api"
	"fugue/code"
	"fugue/engine"
	"fugue/run"
	"fugue/text"
	"fugue/why"
)

// ends: how a run ended, by its number.
var ends = [...]string{api.Done: "done", api.Fuel: "fuel", api.Nils: "nils", api.Fields: "fields", api.Dangle: "dangle"}

func (s *session) show(order) {
	lines, e := text.Print(s.kept.Program())
	s.lines(lines, e)
}

func (s *session) bytes(order) {
	b, e := code.Encode(s.kept.Program())
	if e != api.OK {
		s.fail(e)
		return
	}
	s.tell(hexOf(b))
}

func (s *session) analyze(o order) {
	b, e := code.Encode(s.kept.Program())
	if e != api.OK {
		s.fail(e)
		return
	}
	r := engine.Analyze(b, o.number, o.picks...)
	if r.Err != api.OK {
		s.failAt(r.Err, r.Offset)
		return
	}
	s.tell("steps", strconv.Itoa(r.Steps))
	s.tell(hexOf(r.Bytes))
}

func (s *session) heap(order) {
	r := s.kept.Result()
	told := 0
	for f := range r.Vars {
		told += s.sites(f, "var", r.Vars[f])
		told += s.sites(f, "new", r.Code[f])
	}
	if told == 0 {
		s.tell("none")
	}
}

// sites tells which of a function's sites of one kind are on the heap, and how many they are.
func (s *session) sites(f int, kind string, heap []bool) int {
	told := 0
	for n, is := range heap {
		if is {
			s.tell(strconv.Itoa(f), kind, strconv.Itoa(n))
			told++
		}
	}
	return told
}

func (s *session) sums(order) {
	for f, sum := range s.kept.Result().Sums {
		words := []string{strconv.Itoa(f) + ":"}
		for i, heap := range sum.Heap {
			numbers := []string{derefs(heap)}
			for _, d := range sum.Result[i] {
				numbers = append(numbers, derefs(d))
			}
			words = append(words, strings.Join(numbers, ","))
		}
		s.tell(words...)
	}
}

func derefs(d int) string {
	if d == api.None {
		return "-"
	}
	return strconv.Itoa(d)
}

func (s *session) run(o order) {
	t, e := run.Run(s.kept.Program(), s.kept.Result(), o.number, o.values...)
	if e != api.OK {
		s.fail(e)
		return
	}
	s.trace(t)
}

func (s *session) trace(t api.Trace) {
	for _, v := range t.Prints {
		s.tell("print", valueOf(v))
	}
	words := []string{ends[t.End], strconv.Itoa(t.Steps)}
	for _, v := range t.Results {
		words = append(words, valueOf(v))
	}
	s.tell(words...)
}

func (s *session) why(o order) {
	p := s.kept.Program()
	steps, e := why.Find(p, o.site)
	if e != api.OK {
		s.fail(e)
		return
	}
	lines, e := why.Print(p, steps)
	s.lines(lines, e)
}

// lines tells what is told in whole lines.
func (s *session) lines(lines string, e api.Errno) {
	if e != api.OK {
		s.fail(e)
		return
	}
	s.told.WriteString(lines)
}
