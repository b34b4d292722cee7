package whole

import (
	"slices"

	"fugue/api"
	"fugue/calls"
	"fugue/sums"
)

// check: a graph is asked for because it is refused with code.Check's error just where code.Check has one.
func check(p api.Program, l []api.Summary) api.Errno {
	if _, e := calls.New(p); e != api.OK {
		return e
	}
	if !slices.EqualFunc(p.Funcs, l, right) {
		return api.ErrArg
	}
	return api.OK
}

func right(f api.Func, s api.Summary) bool { return sums.Check(f, s) == api.OK }
