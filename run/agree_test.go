package run_test

import (
	"math/rand"
	"slices"
	"testing"

	"fugue/api"
	"fugue/run"
)

// thing, value: cells and values as the document's words have them, without the package cells: a pointer is the language's own.
type thing struct {
	number int
	fields []value
	owner  *activation // nil: on the heap
	gone   bool
}

type value struct {
	kind, n int
	to      *thing
}

type activation struct {
	f, at int
	vars  []*thing
	below *activation
}

// plain: a run that is done in the plainest way.
type plain struct {
	p       api.Program
	h       api.Result
	globals []value
	things  []*thing
	top     *activation
	trace   api.Trace
}

func newPlain(p api.Program, h api.Result, args []api.Value) *plain {
	x := &plain{p: p, h: h, globals: make([]value, p.Globals), trace: api.Trace{End: api.Fuel}}
	var in []value
	for _, a := range args {
		in = append(in, value{kind: a.Kind, n: a.N})
	}
	x.enter(0, in)
	return x
}

func (x *plain) made(fields int, heap bool, by *activation) *thing {
	c := &thing{number: len(x.things) + 1, fields: make([]value, fields)}
	if !heap {
		c.owner = by
	}
	x.things = append(x.things, c)
	return c
}

func (x *plain) enter(f int, args []value) {
	a := &activation{f: f, below: x.top}
	for v := range x.p.Funcs[f].Vars {
		a.vars = append(a.vars, x.made(1, x.h.Vars[f][v], a))
	}
	for i, arg := range args {
		a.vars[i].fields[0] = arg
	}
	x.top = a
}

func (x *plain) leave() {
	for _, c := range x.things {
		if c.owner == x.top {
			c.gone = true
		}
	}
	x.top = x.top.below
}

// place: the field that an instruction follows a value to; nil: the run has ended.
func (x *plain) place(v value, field int) *value {
	switch {
	case v.kind != api.Ptr:
		x.trace.End = api.Nils
	case v.to.gone:
		x.trace.End = api.Dangle
	case field >= len(v.to.fields):
		x.trace.End = api.Fields
	default:
		return &v.to.fields[field]
	}
	return nil
}

func same(a, b value) bool {
	if a.kind == api.Ptr && b.kind == api.Ptr {
		return a.to == b.to
	}
	return a.kind == b.kind && a.n == b.n
}

func shown(v value, numbers bool) api.Value {
	if v.kind == api.Ptr && numbers {
		return ptr(v.to.number)
	}
	return api.Value{Kind: v.kind, N: v.n} // of a pointer n is 0
}

func (x *plain) all(vars []int) []value {
	var l []value
	for _, v := range vars {
		l = append(l, x.top.vars[v].fields[0])
	}
	return l
}

func toInt(b bool) int {
	if b {
		return 1
	}
	return 0
}

func (x *plain) step() {
	a := x.top
	i := x.p.Funcs[a.f].Code[a.at]
	x.trace.Steps++
	r, s, t := new(value), value{}, value{}
	if len(a.vars) > 0 {
		r, s, t = &a.vars[i.R].fields[0], a.vars[i.S].fields[0], a.vars[i.T].fields[0]
	}
	at := a.at
	a.at++
	switch i.Op {
	case api.Int:
		*r = value{kind: api.Num, n: i.N}
	case api.Null:
		*r = value{}
	case api.Copy:
		*r = s
	case api.Add: // n of what is no int is 0
		*r = value{kind: api.Num, n: s.n + t.n}
	case api.Less:
		*r = value{kind: api.Num, n: toInt(s.n < t.n)}
	case api.Same:
		*r = value{kind: api.Num, n: toInt(same(s, t))}
	case api.Addr:
		*r = value{kind: api.Ptr, to: a.vars[i.S]}
	case api.New:
		*r = value{kind: api.Ptr, to: x.made(i.N, x.h.Code[a.f][at], a)}
	case api.Load:
		if from := x.place(s, i.N); from != nil {
			*r = *from
		}
	case api.Store:
		if to := x.place(*r, i.N); to != nil {
			*to = s
		}
	case api.Get:
		*r = x.globals[i.N]
	case api.Set:
		x.globals[i.N] = s
	case api.Print:
		x.trace.Prints = append(x.trace.Prints, shown(s, false))
	case api.Jump:
		a.at = i.N
	case api.If:
		if s.kind == api.Ptr || s.n != 0 {
			a.at = i.N
		}
	case api.Call:
		x.enter(i.N, x.all(i.Args))
	case api.Return:
		x.back(x.all(i.Args))
	}
}

func (x *plain) back(results []value) {
	x.leave()
	if x.top == nil {
		x.trace.End = api.Done
		for _, v := range results {
			x.trace.Results = append(x.trace.Results, shown(v, false))
		}
		return
	}
	for j, v := range x.p.Funcs[x.top.f].Code[x.top.at-1].Rets {
		x.top.vars[v].fields[0] = results[j]
	}
}

// look: as look of a machine.
func (x *plain) look() seen {
	s := seen{trace: x.trace}
	for _, v := range x.globals {
		s.roots = append(s.roots, shown(v, true))
	}
	var frames []api.Value
	for a := x.top; a != nil; a = a.below {
		var these []api.Value
		for _, c := range a.vars {
			these = append(these, ptr(c.number))
		}
		frames = append(these, frames...)
	}
	s.roots = append(s.roots, frames...)
	for _, c := range x.things {
		if c.gone {
			continue
		}
		s.live = append(s.live, c.number)
		for field := range api.MaxFields {
			if field < len(c.fields) {
				s.fields = append(s.fields, shown(c.fields[field], true), num(int(api.OK)))
			} else {
				s.fields = append(s.fields, null, num(int(api.ErrNoField)))
			}
		}
	}
	return s
}

func vars(r *rand.Rand, n, most int) []int {
	l := make([]int, n)
	for i := range l {
		l[i] = r.Intn(most)
	}
	return l
}

// anyInstr: of a right program with these heads. Pointers are made often and followed at low fields, so that runs go far.
func anyInstr(r *rand.Rand, p *api.Program, f *api.Func, length int) api.Instr {
	v := func() int { return r.Intn(f.Vars) }
	ops := []int{1, 2, 3, 4, 5, 5, 5, 6, 6, 6, 7, 7, 7, 7, 8, 8, 9, 9, 9, 10, 10, 10, 11, 11, 11, 11, 12, 12, 13, 14, 15, 16, 17}
	switch op := ops[r.Intn(len(ops))]; op {
	case api.Int:
		return api.Instr{Op: op, R: v(), N: r.Intn(5) - 1}
	case api.Copy, api.Addr:
		return api.Instr{Op: op, R: v(), S: v()}
	case api.Add, api.Less, api.Same:
		return api.Instr{Op: op, R: v(), S: v(), T: v()}
	case api.New:
		return api.Instr{Op: op, R: v(), N: 1 + r.Intn(3)}
	case api.Load, api.Store:
		return api.Instr{Op: op, R: v(), S: v(), N: r.Intn(7) / 5}
	case api.Get:
		return api.Instr{Op: op, R: v(), N: r.Intn(p.Globals)}
	case api.Set:
		return api.Instr{Op: op, S: v(), N: r.Intn(p.Globals)}
	case api.Call:
		n := r.Intn(len(p.Funcs))
		return api.Instr{Op: op, N: n, Args: vars(r, p.Funcs[n].Params, f.Vars), Rets: vars(r, p.Funcs[n].Results, f.Vars)}
	case api.Print:
		return api.Instr{Op: op, S: v()}
	case api.Jump:
		return api.Instr{Op: op, N: r.Intn(length)}
	case api.If:
		return api.Instr{Op: op, S: v(), N: r.Intn(length)}
	case api.Null:
		return api.Instr{Op: op, R: v()}
	}
	return api.Instr{Op: api.Return, Args: vars(r, f.Results, f.Vars)}
}

// anyPointer: an instruction that makes one.
func anyPointer(r *rand.Rand, f *api.Func) api.Instr {
	if r.Intn(2) == 0 {
		return api.Instr{Op: api.New, R: r.Intn(f.Vars), N: 1 + r.Intn(2)}
	}
	return api.Instr{Op: api.Addr, R: r.Intn(f.Vars), S: r.Intn(f.Vars)}
}

// anyProgram: a right one; what a function gives back is often a pointer to what it made, which its caller follows.
func anyProgram(r *rand.Rand) api.Program {
	p := api.Program{Globals: 1 + r.Intn(2), Funcs: make([]api.Func, 1+r.Intn(5))}
	for i := range p.Funcs {
		vars := 1 + r.Intn(4)
		p.Funcs[i] = api.Func{Params: r.Intn(1 + min(3, vars)), Results: (1 + r.Intn(5)) / 2, Vars: vars}
	}
	for i := range p.Funcs {
		f := &p.Funcs[i]
		length := 5 + r.Intn(15)
		f.Code = append(f.Code, anyPointer(r, f), anyPointer(r, f))
		for len(f.Code) < length-2 {
			f.Code = append(f.Code, anyInstr(r, &p, f, length))
			if c := f.Code[len(f.Code)-1]; len(f.Code) < length-2 && len(c.Rets) > 0 && r.Intn(3) > 0 {
				f.Code = append(f.Code, api.Instr{Op: api.Load, R: r.Intn(f.Vars), S: c.Rets[0]})
			}
		}
		last := anyPointer(r, f)
		out := vars(r, f.Results, f.Vars)
		for j := range out {
			if r.Intn(2) == 0 {
				out[j] = last.R
			}
		}
		f.Code = append(f.Code, last, api.Instr{Op: api.Return, Args: out})
	}
	return p
}

func anyArgs(r *rand.Rand, p api.Program) []api.Value {
	var args []api.Value
	for range p.Funcs[0].Params {
		args = append(args, []api.Value{null, num(0), num(r.Intn(9) - 4)}[r.Intn(3)])
	}
	return args
}

// Whatever the program, the placement and the args: all that is seen of the run, step by step, is what the plain run has.
func TestAgreesWithThePlainRun(t *testing.T) {
	ended, went := map[int]int{}, 0
	for seed := range 3000 {
		r := rand.New(rand.NewSource(int64(seed)))
		p := anyProgram(r)
		h, args := anywhere(r, p), anyArgs(r, p)
		m, x := begun(t, p, h, args...), newPlain(p, h, args)
		const most = 60
		for n := range most {
			if got, want := look(m), x.look(); !got.same(want) {
				t.Fatalf("P4.2, P4.3, P4.4: seed %d behind %d steps: %+v, want %+v", seed, n, got, want)
			}
			if x.trace.End != api.Fuel {
				break
			}
			went++
			x.step()
			if more := m.Step(); more != (x.trace.End == api.Fuel) {
				t.Fatalf("P4.2: seed %d, step %d answers %v", seed, n+1, more)
			}
		}
		if got, e := run.Run(p, h, most, args...); e != api.OK || !sameTrace(got, x.trace) {
			t.Fatalf("P4.5: seed %d: %+v, %d; want %+v", seed, got, e, x.trace)
		}
		ended[x.trace.End]++
	}
	for end := api.Done; end <= api.Dangle; end++ {
		if ended[end] < 40 {
			t.Errorf("the runs are too much alike: %v", ended)
		}
	}
	if went < 40000 {
		t.Errorf("the runs are too short: %d steps in all", went)
	}
}

// Where cells lie is seen nowhere but in a Dangle; on the heap there is none; n steps and then m are n + m; more fuel only adds.
func TestWhatFollows(t *testing.T) {
	dangled := 0
	for seed := range 3000 {
		r := rand.New(rand.NewSource(int64(10000 + seed)))
		p := anyProgram(r)
		args := anyArgs(r, p)
		whole, _ := run.Run(p, run.AllHeap(p), 80, args...)
		if whole.End == api.Dangle {
			t.Fatalf("P4.6: seed %d: a run on the heap ends by Dangle", seed)
		}
		other, _ := run.Run(p, anywhere(r, p), 80, args...)
		if other.End == api.Dangle {
			dangled++
			before, _ := run.Run(p, run.AllHeap(p), other.Steps, args...)
			if !slices.Equal(before.Prints, other.Prints) || before.Steps != other.Steps {
				t.Fatalf("P4.2: seed %d: %+v, on the heap %+v", seed, other, before)
			}
		} else if !sameTrace(whole, other) {
			t.Fatalf("P4.2: seed %d: %+v, on the heap %+v", seed, other, whole)
		}
		fuel := r.Intn(80)
		part, _ := run.Run(p, run.AllHeap(p), fuel, args...)
		if len(part.Prints) > len(whole.Prints) || !slices.Equal(part.Prints, whole.Prints[:len(part.Prints)]) || part.End != api.Fuel && !sameTrace(part, whole) {
			t.Fatalf("P4.5: seed %d, fuel %d: %+v, with more %+v", seed, fuel, part, whole)
		}
	}
	if dangled < 40 {
		t.Errorf("the runs are too much alike: %d end by Dangle", dangled)
	}
}
