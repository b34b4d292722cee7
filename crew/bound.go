package crew

import (
	"fugue/api"
	"fugue/calls"
)

// most: how many steps a component's task has at most, got among them. A round but the last has a number that falls, and none falls more often than there are numbers of derefs.
func most(p api.Program, g *calls.Graph, c int) int {
	members := g.Members(c)
	fall := 0
	for _, f := range members {
		fall += numbers(p.Funcs[f])
	}
	passes := len(members) * ((api.MaxDeref+1)*fall + 1)
	return 1 + len(g.Callees(c)) + passes + 1 + len(g.Callers(c)) + 1
}
