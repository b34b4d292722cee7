package cache

import "fugue/api"

// stubOf: the plainest function whose least summary is this one.
func stubOf(params, results int, s api.Summary) api.Func {
	b := stub{api.Func{Params: params, Results: results, Vars: params + results}}
	for i, d := range s.Heap {
		if v, flows := b.behind(i, d); flows {
			b.add(api.Instr{Op: api.Set, S: v})
		}
		for j, d := range s.Result[i] {
			if v, flows := b.behind(i, d); flows {
				b.add(api.Instr{Op: api.Copy, R: params + j, S: v})
			}
		}
	}
	last := api.Instr{Op: api.Return}
	for j := range results {
		last.Args = append(last.Args, params+j)
	}
	b.add(last)
	return b.Func
}

// stub: a stub as far as it is laid.
type stub struct {
	api.Func
}

func (b *stub) add(x api.Instr) { b.Code = append(b.Code, x) }

// behind: a variable with what one finds behind a parameter's value by so many Loads; false, if it does not flow. Each Load has a variable of its own: what is laid into a variable flows wherever anything else in it does.
func (b *stub) behind(v, derefs int) (int, bool) {
	if derefs == api.None {
		return 0, false
	}
	for range derefs {
		b.add(api.Instr{Op: api.Load, R: b.Vars, S: v})
		v = b.Vars
		b.Vars++
	}
	return v, true
}
