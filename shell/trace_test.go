package shell

import (
	"testing"

	"fugue/api"
)

// How each end is told. (A run that ends by Dangle is to be had only here: with the placement of its result none does.)
func TestTrace(t *testing.T) {
	null, ptr, num := api.Value{}, api.Value{Kind: api.Ptr}, api.Value{Kind: api.Num, N: -3}
	for _, c := range []struct {
		trace api.Trace
		want  string
	}{
		{api.Trace{}, "done 0\n"},
		{api.Trace{End: api.Done, Steps: 7, Results: []api.Value{num, null, ptr}}, "done 7 -3 nil ptr\n"},
		{api.Trace{End: api.Fuel, Steps: 12, Prints: []api.Value{ptr}}, "print ptr\nfuel 12\n"},
		{api.Trace{End: api.Nils, Steps: 3, Prints: []api.Value{null, num}}, "print nil\nprint -3\nnils 3\n"},
		{api.Trace{End: api.Fields, Steps: 1}, "fields 1\n"},
		{api.Trace{End: api.Dangle, Steps: 5}, "dangle 5\n"},
	} {
		s := &session{}
		if s.trace(c.trace); s.told.String() != c.want {
			t.Errorf("P24.2: %v is told as %q, want %q", c.trace, s.told.String(), c.want)
		}
	}
}
