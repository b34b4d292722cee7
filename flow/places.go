package flow

import "fugue/api"

// The locations' numbers: the heap, the results, then the variables, then the News.
const (
	heap        = 0
	firstResult = 1
)

// numbered: may its locations be counted?
func numbered(f api.Func) bool { return f.Results >= 0 && f.Vars >= 0 }

// firstCell: the location of its first New, if it has one.
func firstCell(f api.Func) int { return firstResult + f.Results + f.Vars }

func news(code []api.Instr) int {
	n := 0
	for _, in := range code {
		if in.Op == api.New {
			n++
		}
	}
	return n
}
