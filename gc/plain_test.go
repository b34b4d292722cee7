package gc_test

import (
	"slices"
	"testing"

	"fugue/api"
	"fugue/run"
)

// plainReach: the words taken as they stand: what a root points to, then again and again what a cell that was found points to, until nothing is found any more.
func plainReach(m *run.Machine) []int {
	live := m.Memory().Live()
	var found []int
	find := func(values []api.Value) bool {
		was := len(found)
		for _, v := range values {
			if v.Kind == api.Ptr && slices.Contains(live, v.N) && !slices.Contains(found, v.N) {
				found = append(found, v.N)
			}
		}
		return len(found) > was
	}
	find(m.Roots())
	for more := true; more; {
		more = false
		for _, n := range slices.Clone(found) {
			more = find(fieldsOf(m, n)) || more
		}
	}
	slices.Sort(found)
	return found
}

// plainCollect drops, one by one, all but what is reached.
func plainCollect(m *run.Machine) int {
	reached, dropped := plainReach(m), 0
	for _, n := range m.Memory().Live() {
		if !slices.Contains(reached, n) {
			m.Memory().Drop(n)
			dropped++
		}
	}
	return dropped
}

// plainRun: run step by step, the steps counted by their trace.
func plainRun(t *testing.T, p api.Program, h api.Result, fuel, every int, args ...api.Value) (api.Trace, int) {
	t.Helper()
	m, dropped := begun(t, p, h, args...), 0
	for m.Trace().Steps < fuel && m.Trace().End == api.Fuel {
		m.Step()
		if tr := m.Trace(); tr.End == api.Fuel && every >= 1 && tr.Steps%every == 0 {
			dropped += plainCollect(m)
		}
	}
	return m.Trace(), dropped
}
