package text_test

import (
	"math/rand"
	"slices"
	"strings"
	"testing"

	"fugue/api"
	"fugue/text"
)

const mark = -77 // stands in spare room

// roomyInts: the same list with spare room behind it.
func roomyInts(l []int) []int {
	return append(slices.Clone(l), mark, mark)[:len(l)]
}

// roomy: the same program, each list of it with spare room behind it.
func roomy(p api.Program) api.Program {
	funcs := slices.Clone(p.Funcs)
	for i, f := range funcs {
		c := slices.Clone(f.Code)
		for k, x := range c {
			c[k].Args, c[k].Rets = roomyInts(x.Args), roomyInts(x.Rets)
		}
		funcs[i].Code = append(c, api.Instr{Op: mark}, api.Instr{Op: mark})[:len(c)]
	}
	p.Funcs = append(funcs, api.Func{Vars: mark}, api.Func{Vars: mark})[:len(funcs)]
	return p
}

// wholeRoom: the program with all spare room taken in.
func wholeRoom(p api.Program) api.Program {
	funcs := slices.Clone(p.Funcs[:cap(p.Funcs)])
	for i, f := range funcs {
		c := slices.Clone(f.Code[:cap(f.Code)])
		for k, x := range c {
			c[k].Args, c[k].Rets = slices.Clone(x.Args[:cap(x.Args)]), slices.Clone(x.Rets[:cap(x.Rets)])
		}
		funcs[i].Code = c
	}
	p.Funcs = funcs
	return p
}

const callText = begin + "  v1, v2 = f5(v3)\n  v4 = f4()\n  v5, v6, v5 = f6(v7, v8)\n  f3(v0, v1, v2)\n  v1, v2 = f5(v3)\n  return\n" + callees

// TestArgumentsStay: what was handed in is as it was, its spare room too.
func TestArgumentsStay(t *testing.T) {
	r := rand.New(rand.NewSource(5))
	refusedOne := parsed(t, "calls", callText)
	refusedOne.Funcs[6].Code[0].Args[2] = 99
	programs := []api.Program{parsed(t, "calls", callText), refusedOne}
	for range 20 {
		programs = append(programs, anyProgram(r))
	}
	for _, p := range programs {
		given := roomy(p)
		before := wholeRoom(given)
		text.Print(given)
		for _, f := range given.Funcs {
			for _, i := range f.Code {
				text.Instr(i)
				text.Instr(with(i, 'T', 1000000000))
			}
		}
		if !same(wholeRoom(given), before) {
			t.Errorf("P2.4: a program that was handed in is another one now")
		}
	}
}

// fill: each number of a program, its lists' spare room too, becomes another one.
func fill(p api.Program) {
	for i := range p.Funcs {
		c := p.Funcs[i].Code
		for k := range c {
			for _, l := range [][]int{c[k].Args, c[k].Rets} {
				for n := range l[:cap(l)] {
					l[:cap(l)][n] = mark
				}
			}
		}
		for k := range c[:cap(c)] {
			c[:cap(c)][k] = api.Instr{Op: mark}
		}
	}
	funcs := p.Funcs[:cap(p.Funcs)]
	for i := range funcs {
		funcs[i] = api.Func{Vars: mark}
	}
}

// TestAnswersAreNew: no answer changes with another one, or with what was handed in.
func TestAnswersAreNew(t *testing.T) {
	first, second := parsed(t, "calls", callText), parsed(t, "calls", callText)
	s := printed(t, "calls", second)
	line := text.Instr(second.Funcs[0].Code[2])
	fill(first)
	if got := printed(t, "calls", second); got != callText || got != s {
		t.Errorf("P2.4: one answer of Parse changed with another one: %q", got)
	}
	fill(second)
	if s != callText || line != "v5, v6, v5 = f6(v7, v8)" {
		t.Errorf("P2.4: a text changed with the program that was handed in")
	}
	if third := parsed(t, "calls", callText); printed(t, "calls", third) != callText {
		t.Errorf("P2.4: an answer is kept from call to call")
	}
}

// eachList: all lists of variables of a program.
func eachList(p api.Program) []*[]int {
	var l []*[]int
	for i := range p.Funcs {
		for k := range p.Funcs[i].Code {
			l = append(l, &p.Funcs[i].Code[k].Args, &p.Funcs[i].Code[k].Rets)
		}
	}
	return l
}

// TestListsOfOneAnswer: no list of a program lies in another one's room.
func TestListsOfOneAnswer(t *testing.T) {
	want := parsed(t, "calls", callText)
	for i := range eachList(want) {
		p := parsed(t, "calls", callText)
		l := *eachList(p)[i]
		was := slices.Clone(l)
		for n := range l[:cap(l)] {
			l[:cap(l)][n] = mark
		}
		*eachList(p)[i] = was
		if !same(p, want) {
			t.Errorf("P2.4: list %d shares memory with another one", i)
		}
	}
	for i := range want.Funcs {
		p := parsed(t, "calls", callText)
		c := p.Funcs[i].Code
		was := slices.Clone(c)
		for k := range c[:cap(c)] {
			c[:cap(c)][k] = api.Instr{Op: mark}
		}
		p.Funcs[i].Code = was
		if !same(p, want) {
			t.Errorf("P2.4: the code of function %d shares memory", i)
		}
	}
}

// TestSharedParts: a program whose functions share their lists is like any other, and the program of its text shares nothing.
func TestSharedParts(t *testing.T) {
	args := []int{0, 0}
	f := api.Func{Results: 2, Vars: 1, Code: []api.Instr{{Op: api.Return, Args: args}, {Op: api.Return, Args: args}}}
	p := api.Program{Funcs: []api.Func{f, f, f}}
	s := printed(t, "shared parts", p)
	if s != "globals 0\n"+strings.Repeat("func params 0 results 2 vars 1\n  return v0, v0\n  return v0, v0\n", 3) {
		t.Errorf("P2.2 shared parts: %q", s)
	}
	q := parsed(t, "shared parts", s)
	q.Funcs[1].Code[0].Args[0] = mark
	q.Funcs[1].Code[0].Args = []int{0, 0}
	if !same(p, q) {
		t.Errorf("P2.4: lists of the parsed program share memory")
	}
}

// TestAtOneTime: calls that run at one time do not see each other.
func TestAtOneTime(t *testing.T) {
	r := rand.New(rand.NewSource(6))
	done := make(chan bool)
	for range 8 {
		p := anyProgram(r)
		want := canonical(p)
		go func() {
			good := true
			for range 50 {
				s, _ := text.Print(p)
				q, _, _ := text.Parse(s)
				good = good && s == want && same(p, q)
			}
			done <- good
		}()
	}
	for range 8 {
		if !<-done {
			t.Errorf("P2.4: calls at one time answer otherwise than one by one")
		}
	}
}
