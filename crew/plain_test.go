package crew_test

import (
	"iter"
	"slices"

	"fugue/api"
	"fugue/solve"
)

// plainGraph: components and who calls whom, as chapter 5 says it.
type plainGraph struct {
	of                        []int
	members, callees, callers [][]int
}

// calls: by function those that it calls.
func callsOf(p api.Program) [][]int {
	lists := make([][]int, len(p.Funcs))
	for f, x := range p.Funcs {
		for _, in := range x.Code {
			if in.Op == api.Call {
				lists[f] = append(lists[f], in.N)
			}
		}
	}
	return lists
}

func reaching(lists [][]int) [][]bool {
	reach := make([][]bool, len(lists))
	for f, l := range lists {
		reach[f] = make([]bool, len(lists))
		reach[f][f] = true
		for _, g := range l {
			reach[f][g] = true
		}
	}
	for by := range lists {
		for f := range lists {
			for g := range lists {
				reach[f][g] = reach[f][g] || reach[f][by] && reach[by][g]
			}
		}
	}
	return reach
}

// plainOf: again and again, of the components without a number all of whose callees have one, the one with the lowest function.
func plainOf(p api.Program) plainGraph {
	lists := callsOf(p)
	reach := reaching(lists)
	g := plainGraph{of: slices.Repeat([]int{-1}, len(lists))}
	ready := func(f int) bool {
		for other := range lists {
			if reach[f][other] && !reach[other][f] && g.of[other] < 0 {
				return false
			}
		}
		return g.of[f] < 0
	}
	for f := 0; f < len(lists); f++ {
		if !ready(f) {
			continue
		}
		var ring []int
		for m := range lists {
			if reach[f][m] && reach[m][f] {
				g.of[m] = len(g.members)
				ring = append(ring, m)
			}
		}
		g.members = append(g.members, ring)
		f = -1
	}
	g.callees, g.callers = make([][]int, len(g.members)), make([][]int, len(g.members))
	for c := range g.members {
		for d := range g.members {
			if c != d && slices.ContainsFunc(g.members[c], func(f int) bool {
				return slices.ContainsFunc(lists[f], func(h int) bool { return g.of[h] == d })
			}) {
				g.callees[c] = append(g.callees[c], d)
				g.callers[d] = append(g.callers[d], c)
			}
		}
	}
	return g
}

// plainPlay: a scripted run by the chapter's words and nothing else. A worker is told as one who does one thing behind the other; it stands still behind each step.
type plainPlay struct {
	p          api.Program
	g          plainGraph
	table      map[int][]api.Summary
	counters   []int
	left       int
	deques     [][]int // the far end first
	has, ended []bool
	events     []api.Event
	able       [][]int // ahead of each step: who could go on
	script     []int   // by step: the place of the one that was picked
}

func newPlay(p api.Program, workers int) *plainPlay {
	g := plainOf(p)
	s := &plainPlay{p: p, g: g, table: map[int][]api.Summary{}, left: len(g.members), deques: make([][]int, workers), has: make([]bool, workers), ended: make([]bool, workers)}
	for c := range g.members {
		s.counters = append(s.counters, len(g.callees[c]))
		if s.counters[c] == 0 {
			s.deques[c%workers] = append(s.deques[c%workers], c)
		}
	}
	return s
}

// worker: one whose steps are taken one by one.
func (s *plainPlay) worker(w int) iter.Seq[api.Event] {
	return func(yield func(api.Event) bool) {
		for v, W := 0, len(s.deques); ; {
			if s.left == 0 {
				s.ended[w] = true
				yield(api.Event{Worker: w, Kind: api.Exit, Task: -1})
				return
			}
			u := (w + v) % W
			q := s.deques[u]
			if len(q) == 0 {
				e := api.Event{Worker: w, Kind: api.Steal, Task: -1, Other: u}
				if v == 0 {
					e = api.Event{Worker: w, Kind: api.Idle, Task: -1}
				}
				v = (v + 1) % W
				if !yield(e) {
					return
				}
				continue
			}
			e := api.Event{Worker: w, Kind: api.Steal, Task: q[0], Other: u}
			s.deques[u] = slices.Clone(q[1:])
			if v == 0 {
				e = api.Event{Worker: w, Kind: api.Pop, Task: q[len(q)-1]}
				s.deques[u] = slices.Clone(q[:len(q)-1])
			}
			v = 0
			s.has[w] = true
			if !yield(e) || !s.task(w, e.Task, yield) {
				return
			}
		}
	}
}

// task: all steps of a task that was got.
func (s *plainPlay) task(w, t int, yield func(api.Event) bool) bool {
	var sums []api.Summary
	for _, f := range s.p.Funcs {
		sums = append(sums, solve.Lowest(f))
	}
	for _, c := range s.g.callees[t] {
		l, is := s.table[c]
		for i, x := range l {
			sums[s.g.members[c][i]] = x
		}
		if !yield(api.Event{Worker: w, Kind: api.Look, Task: t, Other: c, Changed: is}) {
			return false
		}
	}
	for changed := true; changed; {
		changed = false
		for _, f := range s.g.members[t] {
			_, x, _ := solve.Function(s.p, f, sums)
			other := !alikeSum(x, sums[f])
			sums[f] = x
			changed = changed || other
			if !yield(api.Event{Worker: w, Kind: api.Pass, Task: t, Other: f, Changed: other}) {
				return false
			}
		}
	}
	_, was := s.table[t]
	if !was {
		for _, f := range s.g.members[t] {
			s.table[t] = append(s.table[t], sums[f])
		}
	}
	if !yield(api.Event{Worker: w, Kind: api.Publish, Task: t, Changed: !was}) {
		return false
	}
	for _, d := range s.g.callers[t] {
		s.counters[d]--
		n := s.counters[d]
		if n == 0 {
			s.deques[w] = append(slices.Clone(s.deques[w]), d)
		}
		if !yield(api.Event{Worker: w, Kind: api.Lower, Task: t, Other: d, N: n, Changed: n == 0}) {
			return false
		}
	}
	s.left--
	s.has[w] = false
	return yield(api.Event{Worker: w, Kind: api.Finish, Task: t})
}

func (s *plainPlay) canGoOn() []int {
	waiting := slices.ContainsFunc(s.deques, func(q []int) bool { return len(q) > 0 })
	var l []int
	for w := range s.deques {
		if !s.ended[w] && (s.has[w] || s.left == 0 || waiting) {
			l = append(l, w)
		}
	}
	return l
}

// run: until nobody can go on, or so many steps; pick says who goes on, of those that can.
func (s *plainPlay) run(most int, pick func(step int, able []int) int) {
	var next []func() (api.Event, bool)
	for w := range s.deques {
		n, stop := iter.Pull(s.worker(w))
		defer stop()
		next = append(next, n)
	}
	for step := 0; step < most; step++ {
		able := s.canGoOn()
		if len(able) == 0 {
			return
		}
		w := pick(step, able)
		e, _ := next[w]()
		s.events = append(s.events, e)
		s.able = append(s.able, able)
		s.script = append(s.script, slices.Index(able, w))
	}
}

// byScript: behind the script's end going round behind the last one.
func byScript(script []int) func(int, []int) int {
	last := -1
	return func(step int, able []int) int {
		if step < len(script) {
			last = able[plainMod(script[step], len(able))]
			return last
		}
		at := slices.IndexFunc(able, func(w int) bool { return w > last })
		last = able[max(at, 0)]
		return last
	}
}

const unbounded = 1 << 40

func plain(p api.Program, workers int, script []int) *plainPlay {
	s := newPlay(p, workers)
	s.run(unbounded, byScript(script))
	return s
}

// summaries: of all functions, as they were published.
func (s *plainPlay) summaries() []api.Summary {
	l := make([]api.Summary, len(s.p.Funcs))
	for c, own := range s.table {
		for i, x := range own {
			l[s.g.members[c][i]] = x
		}
	}
	return l
}
