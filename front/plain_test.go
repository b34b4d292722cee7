package front_test

import (
	"slices"
	"strings"

	"fugue/api"
)

// wrong: an error and the token at which it is told.
type wrong struct {
	err   api.Errno
	token int
}

func ask(holds bool, err api.Errno, token int) {
	if !holds {
		panic(wrong{err, token})
	}
}

// asker reads the chapter's table plainly.
type asker struct {
	t    *tree
	fn   *fnOf
	seen []map[string]string // by block: the types of the variables that were declared in it
	had  map[string]bool     // all variables of the function that were met
}

// asked: what Compile tells of a tree whose tokens were laid; no error: {OK, -1}.
func asked(t *tree) (w wrong) {
	defer func() {
		if x := recover(); x != nil {
			w = x.(wrong)
		}
	}()
	a := &asker{t: t}
	a.heads()
	for _, f := range t.fns() {
		a.fn = f
		a.seen = []map[string]string{{}}
		a.had = map[string]bool{}
		for _, p := range f.params {
			a.seen[0][p.name] = p.kind
			a.had[p.name] = true
		}
		a.block(f.body)
	}
	return wrong{api.OK, -1}
}

func (a *asker) record(name string) *recordOf {
	for _, r := range a.t.records() {
		if r.name == name {
			return r
		}
	}
	return nil
}

func (a *asker) global(name string) *globalOf {
	for _, g := range a.t.globals() {
		if g.name == name {
			return g
		}
	}
	return nil
}

func (a *asker) called(name string) *fnOf {
	for _, f := range a.t.fns() {
		if f.name == name {
			return f
		}
	}
	return nil
}

func (a *asker) kind(k string, token int) {
	of := strings.TrimLeft(k, "*")
	ask(of == "int" || a.record(of) != nil, api.ErrName, token)
}

func (a *asker) heads() {
	for _, d := range a.t.all {
		switch d := d.(type) {
		case *recordOf:
			ask(a.record(d.name) == d, api.ErrName, d.at)
			a.pairs(d.fields)
		case *globalOf:
			ask(a.global(d.name) == d, api.ErrName, d.pair.at)
			a.kind(d.kind, d.kindAt)
		case *fnOf:
			ask(a.called(d.name) == d, api.ErrName, d.at)
			for _, p := range d.params {
				if a.global(p.name) != nil {
					// Nothing ahead of it in the source may be wrong.
					a.pairs(d.params[:slices.Index(d.params, p)])
					ask(false, api.ErrName, p.at)
				}
			}
			a.pairs(d.params)
			a.pairs(d.results)
		}
	}
	ask(len(a.t.fns()) > 0, api.ErrName, a.t.end)
	for _, p := range a.t.fns()[0].params {
		ask(p.kind == "int", api.ErrType, a.t.fns()[0].at)
	}
}

func (a *asker) pairs(l []*pair) {
	had := map[string]bool{}
	for _, p := range l {
		ask(p.name == "" || !had[p.name], api.ErrName, p.at)
		had[p.name] = true
		a.kind(p.kind, p.kindAt)
	}
}

func (a *asker) block(l []*stmt) {
	a.seen = append(a.seen, map[string]string{})
	for _, s := range l {
		a.stmt(s)
	}
	a.seen = a.seen[:len(a.seen)-1]
}

// find: the type of what a name stands for, and whether it is a global.
func (a *asker) find(name string, token int) (string, bool) {
	for _, block := range a.seen {
		if k := block[name]; k != "" {
			return k, false
		}
	}
	g := a.global(name)
	ask(g != nil, api.ErrName, token)
	return g.kind, true
}

func (a *asker) value(e *expr, k string) {
	ask(a.expr(e) == k, api.ErrType, e.place)
}

func (a *asker) stmt(s *stmt) {
	switch s.op {
	case "var":
		ask(!a.had[s.word] && a.global(s.word) == nil, api.ErrName, s.at)
		a.kind(s.kind, s.kindAt)
		a.value(s.sub[0], s.kind)
		a.had[s.word] = true
		a.seen[len(a.seen)-1][s.word] = s.kind
	case "print":
		a.expr(s.sub[0])
	case "return":
		ask(len(s.sub) == len(a.fn.results), api.ErrType, s.at)
		kinds := a.kinds(s.sub)
		for i, r := range a.fn.results {
			ask(kinds[i] == r.kind, api.ErrType, s.sub[i].place)
		}
	case "if", "while":
		a.expr(s.sub[0])
		a.block(s.then)
		a.block(s.other)
	case "call":
		a.call(s.sub[0], -1)
	case "several":
		var kinds []string
		for i, n := range s.names {
			k, _ := a.find(n, s.namesAt[i])
			kinds = append(kinds, k)
		}
		f := a.call(s.sub[0], len(s.names))
		for i, r := range f.results {
			ask(kinds[i] == r.kind, api.ErrType, s.namesAt[i])
		}
	case "name":
		k, _ := a.find(s.word, s.at)
		a.value(s.sub[0], k)
	case ".":
		k := a.field(s.sub[0], s.word, s.at)
		a.value(s.sub[1], k)
	case "*":
		k := a.behind(s.sub[0], s.at)
		a.value(s.sub[1], k)
	}
}

func (a *asker) kinds(l []*expr) []string {
	var out []string
	for _, e := range l {
		out = append(out, a.expr(e))
	}
	return out
}

func (a *asker) call(e *expr, results int) *fnOf {
	f := a.called(e.word)
	ask(f != nil, api.ErrName, e.at)
	ask(len(e.sub) == len(f.params), api.ErrType, e.at)
	ask(results < 0 || results == len(f.results), api.ErrType, e.at)
	kinds := a.kinds(e.sub)
	for i, p := range f.params {
		ask(kinds[i] == p.kind, api.ErrType, e.sub[i].place)
	}
	return f
}

func (a *asker) behind(e *expr, star int) string {
	k := a.expr(e)
	ask(strings.HasPrefix(k, "**") || k == "*int", api.ErrType, star)
	return k[1:]
}

func (a *asker) field(e *expr, name string, token int) string {
	k := a.expr(e)
	ask(strings.Count(k, "*") == 1 && k != "*int", api.ErrType, e.place)
	for _, f := range a.record(k[1:]).fields {
		if f.name == name {
			return f.kind
		}
	}
	ask(false, api.ErrName, token)
	return ""
}

func (a *asker) expr(e *expr) string {
	switch e.op {
	case "name":
		k, _ := a.find(e.word, e.at)
		return k
	case "&":
		k, global := a.find(e.word, e.word1)
		ask(!global, api.ErrType, e.at)
		return "*" + k
	case "new":
		a.kind(e.word, e.word1)
		return "*" + e.word
	case "null":
		a.kind(e.word, e.word1)
		ask(e.word != "int", api.ErrType, e.at)
		return e.word
	case "*":
		return a.behind(e.sub[0], e.at)
	case ".":
		return a.field(e.sub[0], e.word, e.at)
	case "+", "<":
		kinds := a.kinds(e.sub)
		ask(kinds[0] == "int", api.ErrType, e.sub[0].place)
		ask(kinds[1] == "int", api.ErrType, e.sub[1].place)
	case "==":
		kinds := a.kinds(e.sub)
		ask(kinds[0] == kinds[1], api.ErrType, e.sub[1].place)
	case "call":
		return a.call(e, 1).results[0].kind
	}
	return "int"
}

// cell: of a run: by names of fields, or by "" alone.
type cell map[string]any

// ended is thrown where a run ends within calls; given, where a function returns.
type (
	ended int
	given []any
)

// walker does what a tree says, by the language's own calls. Its values are ints and cells; null is a nil cell.
type walker struct {
	asker
	fuel    int
	globals cell
	vars    map[string]cell // of the function that runs
	trace   api.Trace
}

// meant: the trace of a right tree.
func meant(t *tree, fuel int, args []int) (trace api.Trace) {
	w := &walker{asker: asker{t: t}, fuel: fuel, globals: cell{}}
	for _, g := range t.globals() {
		w.globals[g.name] = zeroOf(g.kind)
	}
	var l []any
	for _, n := range args {
		l = append(l, n)
	}
	defer func() {
		if x := recover(); x != nil {
			w.trace.End = int(x.(ended))
		}
		trace = w.trace
	}()
	for _, v := range w.run(t.fns()[0], l) {
		w.trace.Results = append(w.trace.Results, toldAs(v))
	}
	return w.trace
}

func zeroOf(kind string) any {
	if kind == "int" {
		return 0
	}
	return cell(nil)
}

func toldAs(v any) api.Value {
	switch v := v.(type) {
	case int:
		return api.Value{Kind: api.Num, N: v}
	case cell:
		if v == nil {
			return api.Value{}
		}
	}
	return api.Value{Kind: api.Ptr}
}

func isTrue(v any) bool { return toldAs(v) != api.Value{} && v != 0 }

// run: a function's results.
func (w *walker) run(f *fnOf, args []any) (results []any) {
	was := w.vars
	w.vars = map[string]cell{}
	for i, p := range f.params {
		w.vars[p.name] = cell{"": args[i]}
	}
	defer func() {
		w.vars = was
		if x := recover(); x != nil {
			g, is := x.(given)
			if !is {
				panic(x)
			}
			results = g
		}
	}()
	w.block(f.body)
	for _, r := range f.results {
		results = append(results, zeroOf(r.kind))
	}
	return results
}

func (w *walker) step() {
	if w.trace.Steps >= w.fuel {
		panic(ended(api.Fuel))
	}
	w.trace.Steps++
}

func (w *walker) block(l []*stmt) {
	for _, s := range l {
		w.stmt(s)
	}
}

func (w *walker) set(name string, v any) {
	if x, is := w.vars[name]; is {
		x[""] = v
	} else {
		w.globals[name] = v
	}
}

func (w *walker) stmt(s *stmt) {
	w.step()
	switch s.op {
	case "var":
		v := w.expr(s.sub[0])
		if w.vars[s.word] == nil {
			w.vars[s.word] = cell{}
		}
		w.vars[s.word][""] = v
	case "print":
		w.trace.Prints = append(w.trace.Prints, toldAs(w.expr(s.sub[0])))
	case "return":
		panic(given(w.exprs(s.sub)))
	case "if":
		if isTrue(w.expr(s.sub[0])) {
			w.block(s.then)
		} else {
			w.block(s.other)
		}
	case "while":
		for isTrue(w.expr(s.sub[0])) {
			w.block(s.then)
			w.step()
		}
	case "call":
		w.call(s.sub[0])
	case "several":
		for i, v := range w.call(s.sub[0]) {
			w.set(s.names[i], v)
		}
	case "name":
		w.set(s.word, w.expr(s.sub[0]))
	case ".", "*":
		field := s.word
		at := w.expr(s.sub[0]).(cell)
		v := w.expr(s.sub[1])
		w.follow(at)[field] = v
	}
}

func (w *walker) follow(c cell) cell {
	if c == nil {
		panic(ended(api.Nils))
	}
	return c
}

func (w *walker) exprs(l []*expr) []any {
	var out []any
	for _, e := range l {
		out = append(out, w.expr(e))
	}
	return out
}

func (w *walker) call(e *expr) []any {
	w.step()
	return w.run(w.called(e.word), w.exprs(e.sub))
}

func (w *walker) expr(e *expr) any {
	if e.op == "call" {
		return w.call(e)[0]
	}
	w.step()
	l := w.exprs(e.sub)
	switch e.op {
	case "number":
		return numberOf(e.word)
	case "name":
		if x, is := w.vars[e.word]; is {
			return x[""]
		}
		return w.globals[e.word]
	case "&":
		return w.vars[e.word]
	case "new":
		return w.fresh(e.word)
	case "*":
		return w.follow(l[0].(cell))[""]
	case ".":
		return w.follow(l[0].(cell))[e.word]
	case "+":
		return l[0].(int) + l[1].(int)
	case "<":
		if l[0].(int) < l[1].(int) {
			return 1
		}
		return 0
	case "==":
		if sameAs(l[0], l[1]) {
			return 1
		}
		return 0
	}
	return cell(nil)
}

func (w *walker) fresh(kind string) any {
	c := cell{}
	if r := w.record(kind); r != nil {
		for _, f := range r.fields {
			c[f.name] = zeroOf(f.kind)
		}
		return c
	}
	c[""] = zeroOf(kind)
	return c
}

// sameAs: cells are alike if a mark on the one is seen on the other.
func sameAs(a, b any) bool {
	x, is := a.(cell)
	if !is {
		return a == b
	}
	y := b.(cell)
	if x == nil || y == nil {
		return x == nil && y == nil
	}
	x["?"] = 1
	defer delete(x, "?")
	return y["?"] != nil
}
