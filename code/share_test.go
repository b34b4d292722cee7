package code_test

import (
	"bytes"
	"slices"
	"testing"

	"fugue/api"
	"fugue/code"
)

const mark = -77 // stands in spare room

// roomyInts: the same list with spare room behind it.
func roomyInts(l []int) []int {
	return append(slices.Clone(l), mark, mark)[:len(l)]
}

// roomy: the same program, each list of it with spare room behind it.
func roomy(p api.Program) api.Program {
	funcs := slices.Clone(p.Funcs)
	for i, f := range funcs {
		c := slices.Clone(f.Code)
		for k, x := range c {
			c[k].Args, c[k].Rets = roomyInts(x.Args), roomyInts(x.Rets)
		}
		funcs[i].Code = append(c, api.Instr{Op: mark}, api.Instr{Op: mark})[:len(c)]
	}
	p.Funcs = append(funcs, api.Func{Vars: mark}, api.Func{Vars: mark})[:len(funcs)]
	return p
}

// wholeRoom: the program with all spare room taken in.
func wholeRoom(p api.Program) api.Program {
	funcs := slices.Clone(p.Funcs[:cap(p.Funcs)])
	for i, f := range funcs {
		c := slices.Clone(f.Code[:cap(f.Code)])
		for k, x := range c {
			c[k].Args, c[k].Rets = slices.Clone(x.Args[:cap(x.Args)]), slices.Clone(x.Rets[:cap(x.Rets)])
		}
		funcs[i].Code = c
	}
	p.Funcs = funcs
	return p
}

func TestArgumentsStay(t *testing.T) {
	spoilt := every()
	spoilt.Funcs[1].Code[0].Args[2] = 2
	for _, p := range []api.Program{every(), least(), spoilt} {
		given := roomy(p)
		before := wholeRoom(given)
		code.Check(given)
		code.Encode(given)
		code.Locations(given)
		if !same(wholeRoom(given), before) {
			t.Errorf("P1.5: a program that was handed in is another one now")
		}
		whole := append(lay(p), 1, 2, 3)
		b := whole[:len(whole)-3]
		kept := slices.Clone(whole)
		code.Decode(b)
		code.Decode(b[:len(b)-1])
		if !bytes.Equal(whole, kept) {
			t.Errorf("P1.5: bytes that were handed in are others now")
		}
	}
}

// fill: each number of a program, its lists' spare room too, becomes another one.
func fill(p api.Program) {
	for i := range p.Funcs {
		c := p.Funcs[i].Code
		for k := range c {
			for _, l := range [][]int{c[k].Args, c[k].Rets} {
				for n := range l[:cap(l)] {
					l[:cap(l)][n] = mark
				}
			}
		}
		for k := range c[:cap(c)] {
			c[:cap(c)][k] = api.Instr{Op: mark}
		}
	}
	funcs := p.Funcs[:cap(p.Funcs)]
	for i := range funcs {
		funcs[i] = api.Func{Vars: mark}
	}
}

func TestAnswersAreNew(t *testing.T) {
	given := lay(every())
	p, _, _ := code.Decode(given)
	fill(p)
	if !bytes.Equal(given, lay(every())) {
		t.Errorf("P1.5: the bytes changed with the program")
	}
	p, _, _ = code.Decode(given)
	for i := range given {
		given[i] = 0xff
	}
	if !same(p, every()) {
		t.Errorf("P1.5: the program changed with the bytes")
	}
	q := every()
	b, _ := code.Encode(q)
	fill(q)
	if !bytes.Equal(b, lay(every())) {
		t.Errorf("P1.5: the bytes changed with the program that was handed in")
	}
	q = every()
	first, _ := code.Encode(q)
	second, _ := code.Encode(q)
	for i := range first[:cap(first)] {
		first[:cap(first)][i] = 0xff
	}
	if !bytes.Equal(second, lay(every())) || !same(q, every()) {
		t.Errorf("P1.5: two answers share bytes")
	}
}

// eachList: all lists of variables of a program.
func eachList(p api.Program) []*[]int {
	var l []*[]int
	for i := range p.Funcs {
		for k := range p.Funcs[i].Code {
			l = append(l, &p.Funcs[i].Code[k].Args, &p.Funcs[i].Code[k].Rets)
		}
	}
	return l
}

// TestListsOfOneAnswer: no list of a decoded program lies in another one's room.
func TestListsOfOneAnswer(t *testing.T) {
	b := lay(every())
	fresh, _, _ := code.Decode(b)
	for i := range eachList(fresh) {
		p, _, _ := code.Decode(b)
		l := eachList(p)
		was := slices.Clone(*l[i])
		for n := range *l[i] {
			(*l[i])[n] = mark
		}
		for range 4 {
			*l[i] = append(*l[i], mark)
		}
		*l[i] = was
		if !same(p, every()) {
			t.Errorf("P1.5: list %d shares memory with another one", i)
		}
	}
	for i := range fresh.Funcs {
		p, _, _ := code.Decode(b)
		for range 4 {
			_ = append(p.Funcs[i].Code, api.Instr{Op: mark})
		}
		if !same(p, every()) {
			t.Errorf("P1.5: the code of function %d shares memory", i)
		}
	}
}

// TestSharedParts: a program whose functions share one list of instructions is like any other, and its copy shares nothing.
func TestSharedParts(t *testing.T) {
	args := []int{0, 0}
	f := api.Func{Results: 2, Vars: 1, Code: []api.Instr{{Op: api.Return, Args: args}, {Op: api.Return, Args: args}}}
	p := api.Program{Funcs: []api.Func{f, f, f}}
	b, e := code.Encode(p)
	q, g, _ := code.Decode(b)
	if e != api.OK || g != api.OK || !same(p, q) {
		t.Fatalf("P1.2: shared parts: %d, %d", e, g)
	}
	q.Funcs[1].Code[0].Args[0] = mark
	q.Funcs[1].Code[0].Args = []int{0, 0}
	if !same(p, q) {
		t.Errorf("P1.5: a decoded program has lists that share memory")
	}
}
