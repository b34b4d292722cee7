package run

import "fugue/api"

func number(n int) api.Value {
	return api.Value{Kind: api.Num, N: n}
}

func pointer(cell int) api.Value {
	return api.Value{Kind: api.Ptr, N: cell}
}

func truth(b bool) api.Value {
	if b {
		return number(1)
	}
	return number(0)
}

// intOf: what Add and Less take a value for.
func intOf(v api.Value) int {
	if v.Kind != api.Num {
		return 0
	}
	return v.N
}

// told: a value as a trace has it: no number of a cell is seen outside.
func told(v api.Value) api.Value {
	if v.Kind == api.Ptr {
		return pointer(0)
	}
	return v
}
