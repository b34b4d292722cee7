package calls_test

import "testing"

// row: who calls whom, and what the graph is to tell of it.
type row struct {
	what    string
	lists   [][]int
	members [][]int
	callees [][]int
}

func (r row) ask(t *testing.T) {
	t.Helper()
	tells(t, r.what, program(r.lists...), r.members, r.callees)
}

func TestExamples(t *testing.T) {
	for _, r := range []row{
		{"example 1", [][]int{{1, 2}, {2}, nil}, [][]int{{2}, {1}, {0}}, [][]int{nil, {0}, {0, 1}}},
		{"example 2", [][]int{{1}, {2}, {1, 3}, nil, {4}}, [][]int{{3}, {1, 2}, {0}, {4}}, [][]int{nil, {0}, {1}, nil}},
		{"example 3", [][]int{nil, nil, {0}}, [][]int{{0}, {1}, {2}}, [][]int{nil, nil, {0}}},
	} {
		r.ask(t)
	}
}

func TestRings(t *testing.T) {
	for _, r := range []row{
		{"the least program", [][]int{nil}, [][]int{{0}}, [][]int{nil}},
		{"one that calls itself", [][]int{{0}}, [][]int{{0}}, [][]int{nil}},
		{"one that calls itself often, and another", [][]int{{0, 0, 1, 0}, {1, 1}}, [][]int{{1}, {0}}, [][]int{nil, {0}}},
		{"one that nobody calls, which calls", [][]int{nil, {0}}, [][]int{{0}, {1}}, [][]int{nil, {0}}},
		{"one that nobody calls, which calls nobody", [][]int{{2}, nil, nil}, [][]int{{1}, {2}, {0}}, [][]int{nil, nil, {1}}},
		{"two that call each other", [][]int{{1}, {0}}, [][]int{{0, 1}}, [][]int{nil}},
		{"two that don't", [][]int{{1}, nil}, [][]int{{1}, {0}}, [][]int{nil, {0}}},
		{"a ring of three, turning down", [][]int{{2}, {0}, {1}}, [][]int{{0, 1, 2}}, [][]int{nil}},
		{"two rings that share a function", [][]int{{1, 3}, {2}, {0}, {4}, {0}}, [][]int{{0, 1, 2, 3, 4}}, [][]int{nil}},
		{"two rings that share one that is not met first", [][]int{{1}, {2, 3}, {0}, {4}, {1}}, [][]int{{0, 1, 2, 3, 4}}, [][]int{nil}},
		{"a ring within a longer one", [][]int{{1}, {2}, {1, 3}, {0}}, [][]int{{0, 1, 2, 3}}, [][]int{nil}},
		{"one that calls itself within a ring", [][]int{{1}, {1, 0}}, [][]int{{0, 1}}, [][]int{nil}},
		{"a ring whose way back comes last", [][]int{{1, 2}, nil, {3}, {1, 0}}, [][]int{{1}, {0, 2, 3}}, [][]int{nil, {0}}},
		{"a ring that calls a ring", [][]int{{1}, {0, 2}, {3}, {2}}, [][]int{{2, 3}, {0, 1}}, [][]int{nil, {0}}},
		{"a ring that a ring calls twice", [][]int{{1, 2}, {0, 3}, {3}, {2}}, [][]int{{2, 3}, {0, 1}}, [][]int{nil, {0}}},
		{"two ways into a component that is known", [][]int{{1, 2}, {3}, {3}, nil}, [][]int{{3}, {1}, {2}, {0}}, [][]int{nil, {0}, {0}, {1, 2}}},
		{"a known component that is called from a ring", [][]int{{1, 2}, nil, {0, 1}}, [][]int{{1}, {0, 2}}, [][]int{nil, {0}}},
		{"rings whose functions stand between one another", [][]int{{2}, {3}, {4}, {5}, {0}, {1}}, [][]int{{0, 2, 4}, {1, 3, 5}}, [][]int{nil, nil}},
	} {
		r.ask(t)
	}
}

func TestNumbers(t *testing.T) {
	for _, r := range []row{
		{"none calls another", [][]int{nil, {1}, nil, {3}}, [][]int{{0}, {1}, {2}, {3}}, make([][]int, 4)},
		{"free later, and lower", [][]int{{4}, nil, nil, nil, nil}, [][]int{{1}, {2}, {3}, {4}, {0}}, [][]int{nil, nil, nil, nil, {3}}},
		{"free later, and at once the next", [][]int{{1}, nil, nil, nil}, [][]int{{1}, {0}, {2}, {3}}, [][]int{nil, {0}, nil, nil}},
		{"one makes several free", [][]int{{3}, {3}, {3}, nil, nil}, [][]int{{3}, {0}, {1}, {2}, {4}}, [][]int{nil, {0}, {0}, {0}, nil}},
		{"a chain that goes up by turns", [][]int{{1}, {2}, nil, {4}, {5}, nil}, [][]int{{2}, {1}, {0}, {5}, {4}, {3}}, [][]int{nil, {0}, {1}, nil, {3}, {4}}},
		{"a component is as low as its lowest function", [][]int{{5}, {4}, nil, nil, {1}, {0}}, [][]int{{0, 5}, {1, 4}, {2}, {3}}, make([][]int, 4)},
		{"the lowest function counts, not the first that is called", [][]int{{3, 1}, {4}, nil, nil, {1}}, [][]int{{1, 4}, {2}, {3}, {0}}, [][]int{nil, nil, nil, {0, 2}}},
		{"freed only by the last of its callees", [][]int{{2, 4}, nil, nil, {0}, {1}}, [][]int{{1}, {2}, {4}, {0}, {3}}, [][]int{nil, nil, {0}, {1, 2}, {3}}},
		{"a caller waits for one callee that is called often", [][]int{{2, 2, 2}, {2}, nil}, [][]int{{2}, {0}, {1}}, [][]int{nil, {0}, {0}}},
		{"callees told rising, though called falling", [][]int{{3, 2, 1, 3, 0, 1}, nil, nil, nil}, [][]int{{1}, {2}, {3}, {0}}, [][]int{nil, nil, nil, {0, 1, 2}}},
	} {
		r.ask(t)
	}
}
