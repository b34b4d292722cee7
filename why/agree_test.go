package why_test

import (
	"math/rand"
	"slices"
	"testing"

	"fugue/api"
	"fugue/flow"
	"fugue/weigh"
	"fugue/whole"
	"fugue/why"
)

// W7: just the sites on the heap have a witness, which the table's words let pass too.
func TestAnyProgram(t *testing.T) {
	var rules, derefs [6]int
	heap, frame, several := 0, 0, 0
	for seed := range 2100 {
		r := rand.New(rand.NewSource(int64(seed)))
		p := anyProgram(r, kinds[seed%len(kinds)])
		l, on := sites(t, p)
		for i, s := range l {
			if !on[i] {
				frame++
				missing(t, "any program", p, s, api.ErrSite)
				continue
			}
			heap++
			w := found(t, "any program", p, s)
			if !plainWitness(p, s, w) {
				t.Fatalf("P18.2: seed %d: Find of %v: %v is no witness of\n%s", seed, s, w, told(p))
			}
			for _, x := range w {
				rules[x.Rule]++
				derefs[x.Derefs+1]++
			}
			if slices.ContainsFunc(w, func(x api.Step) bool { return x.Func != s.Func }) {
				several++
			}
		}
	}
	if slices.Min(rules[1:]) < 300 || slices.Min(derefs[:3]) < 200 || derefs[3] < 10 || heap < 3000 || frame < 3000 || several < 400 {
		t.Errorf("the witnesses are too much alike: steps by rule %v, by derefs %v; %d on the heap, %d in the frame, %d of several functions", rules, derefs, heap, frame, several)
	}
}

// spoilt: the list with one thing in it changed.
func spoilt(r *rand.Rand, w, all []api.Step) []api.Step {
	w = slices.Clone(w)
	i := r.Intn(len(w))
	by := 1 + r.Intn(2)
	if r.Intn(2) == 0 {
		by = -by
	}
	switch r.Intn(11) {
	case 0:
		w[i].Func += by
	case 1:
		w[i].Dst += by
	case 2:
		w[i].Src += by
	case 3:
		w[i].Derefs += by
	case 4:
		w[i].Rule += by
	case 5:
		w[i].At += by
	case 6:
		return slices.Delete(w, i, i+1)
	case 7:
		j := r.Intn(len(w))
		w[i], w[j] = w[j], w[i]
	case 8:
		return slices.Insert(w, i, w[r.Intn(len(w))])
	case 9:
		return slices.Insert(w, i, all[r.Intn(len(all))])
	case 10:
		w[i].Rule = 7 - w[i].Rule
		w[i].At = r.Intn(8)
	}
	return w
}

// Lists that are nearly witnesses: what the table's words say of them.
func TestSpoiltWitnesses(t *testing.T) {
	good, bad := 0, 0
	for seed := range 3000 {
		r := rand.New(rand.NewSource(int64(seed)))
		p := anyProgram(r, kinds[seed%len(kinds)])
		all := closed(p).all
		for _, s := range onHeap(t, p) {
			w := found(t, "any program", p, s)
			for range 8 {
				x := spoilt(r, w, all)
				for len(x) > 0 && r.Intn(3) == 0 {
					x = spoilt(r, x, all)
				}
				want := api.ErrWitness
				if plainWitness(p, s, x) {
					want = api.OK
					good++
				} else {
					bad++
				}
				if e := why.Check(p, s, x); e != want {
					t.Fatalf("P18.1: seed %d: Check of %v with %v: error %d, want %d, of\n%s", seed, s, x, e, want, told(p))
				}
			}
		}
	}
	if good < 2000 || bad < 20000 {
		t.Errorf("%d lists were witnesses, %d were not", good, bad)
	}
}

// P18.4: of a site in the frame there is no witness: behind all that can be told at all no step tells its address. Of one on the heap there is.
func TestNoWitnessInTheFrame(t *testing.T) {
	frame := 0
	for seed := range 400 {
		r := rand.New(rand.NewSource(int64(seed)))
		p := anyProgram(r, kinds[seed%len(kinds)])
		c := closed(p)
		l, on := sites(t, p)
		for i, s := range l {
			place := plainLocation(p, s)
			f := p.Funcs[s.Func]
			for d := range f.Results + 1 {
				last := slices.IndexFunc(c.all, func(x api.Step) bool { return factOf(x) == [4]int{s.Func, d, place, -1} })
				if last >= 0 && !on[i] {
					t.Fatalf("P18.4: seed %d: %v is in the frame, and its address flows out", seed, s)
				}
				if last >= 0 {
					passes(t, "all that can be told", p, s, c.all[:last+1])
				}
			}
			if on[i] {
				continue
			}
			frame++
			for rule := 1; rule <= 5; rule++ {
				last := api.Step{Func: s.Func, Dst: r.Intn(f.Results + 1), Src: place, Derefs: -1, Rule: rule, At: r.Intn(len(f.Code))}
				fails(t, "in the frame", p, s, append(slices.Clone(c.all), last))
			}
		}
	}
	if frame < 3000 {
		t.Errorf("only %d sites in the frame", frame)
	}
}

// What follows: the facts that can be told are true by the least solution's edges, and the fewest derefs of each are just those of the flow.
func TestFactsAreTrue(t *testing.T) {
	for seed := range 1500 {
		r := rand.New(rand.NewSource(int64(seed)))
		p := anyProgram(r, kinds[seed%len(kinds)])
		c := closed(p)
		if !allChecked(p, c.all) {
			t.Fatalf("P18.1: seed %d: not all that can be told stands, of\n%s", seed, told(p))
		}
		least, _ := whole.Solve(p)
		for n, f := range p.Funcs {
			edges, _ := flow.Edges(p, n, least.Sums)
			for d := range f.Results + 1 {
				want, _ := weigh.From(flow.Locations(f), edges, rootsOf(p, n, d, least)...)
				for s, w := range want {
					if got := c.fewest(n, d, s); got != w {
						t.Fatalf("seed %d: function %d: %d flows to %d with %d, is told with %d, of\n%s", seed, n, s, d, w, got, told(p))
					}
				}
			}
		}
	}
}

// allChecked: does each step stand? (Asked behind them is a witness of a function of its own.)
func allChecked(p api.Program, w []api.Step) bool {
	q := api.Program{Globals: p.Globals, Funcs: append(slices.Clone(p.Funcs), api.Func{Results: 1, Vars: 2, Code: []api.Instr{{Op: api.Addr, R: 1}, ret(1)}})}
	return probed(q, w)
}

// rootsOf: what counts as that one in a function: a result itself, the heap with all that escapes.
func rootsOf(p api.Program, n, d int, r api.Result) []int {
	l := []int{d}
	if d > 0 {
		return l
	}
	f := p.Funcs[n]
	for v, out := range r.Vars[n] {
		if out {
			l = append(l, flow.Variable(f, v))
		}
	}
	for place, out := range r.Code[n] {
		if out {
			l = append(l, flow.Cell(f, place))
		}
	}
	return l
}

func (c *closure) fewest(n, d, s int) int {
	for w := -1; w <= k; w++ {
		if c.have[[4]int{n, d, s, w}] {
			return w
		}
	}
	return api.None
}

// merged: both lists in one, each in its order, the first one's last step last.
func merged(r *rand.Rand, w, more []api.Step) []api.Step {
	var l []api.Step
	for len(w) > 1 || len(more) > 0 {
		if len(more) == 0 || len(w) > 1 && r.Intn(len(w)+len(more)) < len(w) {
			l, w = append(l, w[0]), w[1:]
		} else {
			l, more = append(l, more[0]), more[1:]
		}
	}
	return append(l, w...)
}

// What follows: a witness with steps put ahead of it, or between its steps, each of which stands where it is put, is one still.
func TestStepsPutIn(t *testing.T) {
	lists := 0
	for seed := range 1000 {
		r := rand.New(rand.NewSource(int64(seed)))
		p := anyProgram(r, kinds[seed%len(kinds)])
		all := closed(p).all
		heap := onHeap(t, p)
		for _, s := range heap {
			w := found(t, "any program", p, s)
			other := found(t, "any program", p, heap[r.Intn(len(heap))])
			for _, more := range [][]api.Step{all, all[:r.Intn(len(all)+1)], other, w, roots(p)} {
				lists++
				passes(t, "put ahead", p, s, joined(more, w))
				passes(t, "put between", p, s, merged(r, w, more))
			}
		}
	}
	if lists < 5000 {
		t.Errorf("only %d lists", lists)
	}
}

// W12: functions numbered otherwise have the same witnesses, numbered so.
func TestNumberedOtherwise(t *testing.T) {
	for seed := range 500 {
		r := rand.New(rand.NewSource(int64(seed)))
		p := anyProgram(r, kinds[seed%len(kinds)])
		as := r.Perm(len(p.Funcs))
		q := api.Program{Globals: p.Globals, Funcs: make([]api.Func, len(p.Funcs))}
		for n, f := range p.Funcs {
			f.Code = slices.Clone(f.Code)
			for i, x := range f.Code {
				if x.Op == api.Call {
					f.Code[i].N = as[x.N]
				}
			}
			q.Funcs[as[n]] = f
		}
		for _, s := range onHeap(t, p) {
			w := found(t, "any program", p, s)
			for i := range w {
				w[i].Func = as[w[i].Func]
			}
			s.Func = as[s.Func]
			passes(t, "numbered otherwise", q, s, w)
			found(t, "numbered otherwise", q, s)
		}
	}
}
