package why_test

import (
	"slices"
	"testing"

	"fugue/api"
)

// example: the chapter's: main is f0 with x and a, g is f1 with p.
func example(t *testing.T) (api.Program, []api.Step) {
	t.Helper()
	p := of(t, fn(0, 0, 2, "v1 = &v0;f1(v1);return"), fn(1, 0, 1, "g0 = v0;return"))
	return p, steps(numbers{1, 0, 0, 0, 1, 0}, numbers{1, 0, 1, 0, 2, 0}, numbers{0, 0, 0, 0, 1, 0}, numbers{0, 0, 2, 0, 3, 1}, numbers{0, 0, 1, -1, 2, 0})
}

func TestExamples(t *testing.T) {
	p, w := example(t)
	x, a := variable(0, 0), variable(0, 1)
	passes(t, "example 1", p, x, w)
	fails(t, "example 2", p, x, without(w, 1))
	missing(t, "example 2", p, a, api.ErrSite)
	fails(t, "example 2", p, a, w)
	for i := range w {
		fails(t, "example 2", p, x, without(w, i))
		fails(t, "example 2", p, a, without(w, i))
		fails(t, "example 2", p, a, w[:i])
	}
	eachStep(p, func(s api.Step) { fails(t, "example 2", p, a, append(slices.Clone(w), s)) })
	found(t, "example 1", p, x)
	prints(t, "example 1", p, w, "f1: heap -> heap (0) root\nf1: var 0 -> heap (0) code 0\nf0: heap -> heap (0) root\nf0: var 1 -> heap (0) call 1\nf0: var 0 -> heap (-1) code 0\n")
}

// The examples of DOC.md, where a site is on the heap.
func TestExamplesOfTheWhole(t *testing.T) {
	for _, c := range []struct {
		what string
		p    api.Program
		heap []api.Site
	}{
		{"2", of(t, fn(0, 0, 2, "v0 = f1();v1 = v0.0;return"), fn(0, 1, 2, "v0 = int 5;v1 = &v0;return v1")), []api.Site{variable(1, 0)}},
		{"3", of(t, fn(0, 0, 0, "return"), fn(1, 1, 2, "v1 = &v0;return v1")), []api.Site{variable(1, 0)}},
		{"4", of(t, fn(0, 0, 0, "return"), fn(0, 1, 3, "v0 = new 1;v1 = v0;v2 = &v1;return v2")), []api.Site{variable(1, 1), cell(1, 0)}},
		{"5", of(t, fn(0, 0, 0, "return"), fn(1, 0, 2, "v1 = new 1;v0.0 = v1;return")), []api.Site{cell(1, 0)}},
		{"a ring", of(t, fn(0, 0, 2, "v1 = &v0;f1(v1);return"), fn(1, 0, 1, "f1(v0);return")), nil},
		{"code that nothing reaches", of(t, fn(0, 0, 4, "jump 0;v1 = &v0;g0 = v1;v2 = new 3;f1(v2);return;v3 = new 1;return"), fn(1, 0, 1, "return;g1 = v0;return")), []api.Site{variable(0, 0), cell(0, 3)}},
		{"a function that nobody calls", of(t, fn(0, 0, 0, "return"), fn(0, 0, 1, "v0 = &v0;g0 = v0;return")), []api.Site{variable(1, 0)}},
	} {
		if heap := onHeap(t, c.p); !slices.Equal(heap, c.heap) {
			t.Fatalf("%s: on the heap: %v", c.what, heap)
		}
		agrees(t, c.what, c.p)
	}
}

// A witness written out for each way to the heap: by a result, by what escapes, by a call to a result, by a ring.
func TestWitnesses(t *testing.T) {
	for _, c := range []struct {
		what string
		p    api.Program
		s    api.Site
		w    []api.Step
	}{
		{"a result", of(t, fn(0, 1, 2, "v1 = &v0;return v1")), variable(0, 0), steps(numbers{0, 1, 1, 0, 1, 0}, numbers{0, 1, 3, 0, 2, 1}, numbers{0, 1, 2, -1, 2, 0})},
		{"what escapes", of(t, fn(0, 1, 3, "v0 = new 1;v1 = v0;v2 = &v1;return v2")), cell(0, 0), steps(numbers{0, 1, 1, 0, 1, 0}, numbers{0, 1, 4, 0, 2, 3}, numbers{0, 1, 3, -1, 2, 2}, numbers{0, 0, 3, 0, 5, 0}, numbers{0, 0, 2, 0, 2, 1}, numbers{0, 0, 5, -1, 2, 0})},
		{"a call to a result", of(t, fn(0, 0, 2, "v0 = new 2;v1 = f1(v0);g0 = v1;return"), fn(1, 1, 1, "return v0")), cell(0, 0), steps(numbers{0, 0, 0, 0, 1, 0}, numbers{1, 1, 1, 0, 1, 0}, numbers{0, 0, 2, 0, 2, 2}, numbers{1, 1, 2, 0, 2, 0}, numbers{0, 0, 1, 0, 4, 1}, numbers{0, 0, 3, -1, 2, 0})},
		{"a ring", of(t, fn(1, 0, 2, "f1(v0);v1 = &v0;f1(v1);return"), fn(1, 0, 1, "f0(v0);g0 = v0;return")), variable(0, 0), steps(numbers{1, 0, 0, 0, 1, 0}, numbers{1, 0, 1, 0, 2, 1}, numbers{0, 0, 0, 0, 1, 0}, numbers{0, 0, 2, 0, 3, 2}, numbers{0, 0, 1, -1, 2, 1})},
		{"a ring, once round", of(t, fn(1, 0, 2, "f1(v0);v1 = &v0;f1(v1);return"), fn(1, 0, 1, "f0(v0);return;g0 = v0;return")), variable(0, 0), steps(numbers{1, 0, 0, 0, 1, 0}, numbers{1, 0, 1, 0, 2, 2}, numbers{0, 0, 0, 0, 1, 0}, numbers{0, 0, 1, 0, 3, 0}, numbers{1, 0, 1, 0, 3, 0}, numbers{0, 0, 2, 0, 3, 2}, numbers{0, 0, 1, -1, 2, 1})},
	} {
		passes(t, c.what, c.p, c.s, c.w)
		found(t, c.what, c.p, c.s)
		l, _ := sites(t, c.p)
		for _, s := range l {
			if s != c.s {
				fails(t, c.what+": another site", c.p, s, c.w)
			}
		}
		for i := range c.w {
			fails(t, c.what+": cut", c.p, c.s, c.w[:i])
			if c.what != "a ring, once round" {
				fails(t, c.what+": a step missing", c.p, c.s, without(c.w, i))
			}
		}
		turned := slices.Clone(c.w)
		slices.Reverse(turned)
		fails(t, c.what+": turned round", c.p, c.s, turned)
		fails(t, c.what+": turned round, and the last one", c.p, c.s, append(turned, c.w[len(c.w)-1]))
		passes(t, c.what+": turned round behind itself", c.p, c.s, joined(c.w, turned, c.w))
	}
}

// Each step stands behind those that it leans on, and at no place ahead of one of them.
func TestOrder(t *testing.T) {
	p, w := example(t)
	x := variable(0, 0)
	leans := [][]int{nil, {0}, nil, {1, 2}, {3}}
	good := 0
	order := []int{0, 1, 2, 3, 4}
	var orders func(n int)
	orders = func(n int) {
		if n < len(order) {
			for i := n; i < len(order); i++ {
				order[n], order[i] = order[i], order[n]
				orders(n + 1)
				order[n], order[i] = order[i], order[n]
			}
			return
		}
		is := order[4] == 4
		var l []api.Step
		for place, i := range order {
			l = append(l, w[i])
			for _, a := range leans[i] {
				is = is && slices.Index(order, a) < place
			}
		}
		if is {
			good++
			passes(t, "an order", p, x, l)
		} else {
			fails(t, "an order", p, x, l)
		}
	}
	orders(0)
	if good != 3 {
		t.Errorf("%d orders are good", good)
	}
}

// The last step tells -1 of the site, in its function; what stands ahead of it may tell anything.
func TestLastStep(t *testing.T) {
	p := of(t, fn(0, 1, 3, "v1 = &v0;v2 = v1;g0 = v1;return v1"), fn(0, 1, 3, "v1 = &v0;v2 = v1;g0 = v1;return v1"))
	w := steps(numbers{0, 0, 0, 0, 1, 0}, numbers{0, 0, 3, 0, 2, 2}, numbers{0, 0, 2, -1, 2, 0})
	x := variable(0, 0)
	passes(t, "the last step", p, x, w)
	fails(t, "another function", p, variable(1, 0), w)
	fails(t, "another variable", p, variable(0, 1), w)
	fails(t, "another variable", p, variable(0, 2), w)
	passes(t, "with the result's", p, x, append(slices.Clone(w), steps(numbers{0, 1, 1, 0, 1, 0}, numbers{0, 1, 3, 0, 2, 3}, numbers{0, 1, 2, -1, 2, 0})...))
	for _, s := range steps(numbers{0, 0, 2, 0, 5, 0}, numbers{0, 0, 3, 0, 2, 2}, numbers{0, 0, 0, 0, 1, 0}, numbers{1, 0, 0, 0, 1, 0}) {
		fails(t, "a last step that tells something else", p, x, append(slices.Clone(w), s))
		passes(t, "and the right one behind it", p, x, append(slices.Clone(w), s, w[2]))
	}
	other := steps(numbers{1, 0, 0, 0, 1, 0}, numbers{1, 0, 3, 0, 2, 2}, numbers{1, 0, 2, -1, 2, 0})
	fails(t, "a last step of another function", p, x, joined(w, other))
	passes(t, "the other function's", p, variable(1, 0), joined(w, other))
	passes(t, "behind the other function's", p, x, joined(other, w))
}

// Its own place counts for nothing: a list of the one step, once or many times, stands on nothing.
func TestLeansOnItself(t *testing.T) {
	p, w := example(t)
	for many := range 5 {
		for _, s := range w {
			fails(t, "the same step", p, variable(0, 0), slices.Repeat([]api.Step{s}, many))
		}
	}
	q := of(t, fn(0, 0, 1, "g0 = v0;v0 = &v0;v0 = v0;return"))
	x := variable(0, 0)
	passes(t, "round", q, x, steps(numbers{0, 0, 0, 0, 1, 0}, numbers{0, 0, 1, 0, 2, 0}, numbers{0, 0, 1, -1, 2, 1}))
	passes(t, "round by what escapes", q, x, steps(numbers{0, 0, 0, 0, 1, 0}, numbers{0, 0, 1, 0, 2, 0}, numbers{0, 0, 1, -1, 2, 1}, numbers{0, 0, 1, 0, 5, 0}, numbers{0, 0, 1, -1, 2, 1}))
	for _, l := range [][]numbers{
		{{0, 0, 1, -1, 2, 1}},
		{{0, 0, 1, 0, 2, 2}, {0, 0, 1, -1, 2, 1}},
		{{0, 0, 1, 0, 5, 0}, {0, 0, 1, -1, 2, 1}},
		{{0, 0, 0, 0, 1, 0}, {0, 0, 1, 0, 5, 0}, {0, 0, 1, -1, 2, 1}},
		{{0, 0, 0, 0, 1, 0}, {0, 0, 1, -1, 2, 1}, {0, 0, 1, 0, 2, 0}, {0, 0, 1, -1, 2, 1}},
	} {
		fails(t, "on itself", q, x, steps(l...))
	}
}
