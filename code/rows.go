package code

import "fugue/api"

// operations is one more than the greatest operation, so a table of so many rows has one for each.
const operations = api.Same + 1

// numberSizes: by operation of how many bytes its N is (0: it has none).
var numberSizes = [operations]int{
	api.Int: 8, api.New: 1, api.Load: 1, api.Store: 1, api.Get: 1, api.Set: 1, api.Call: 2, api.Jump: 2, api.If: 2,
}

// row: what an operation has: for each thing that it names a function that reads it and asks whether it may be so. In the bytes the things of every operation stand in this order.
type row struct {
	r, s, t, n func(w *walk, place *int)
	args, rets func(w *walk, place *[]int)
	ends       bool // a function may end with it
	makes      bool // it is a location
}

// makeRows: the rows by their operations.
func makeRows() [operations]row {
	variable := (*walk).variable
	return [operations]row{
		api.Int:    {r: variable, n: (*walk).anyNumber},
		api.Copy:   {r: variable, s: variable},
		api.Add:    {r: variable, s: variable, t: variable},
		api.Less:   {r: variable, s: variable, t: variable},
		api.Addr:   {r: variable, s: variable},
		api.New:    {r: variable, n: (*walk).fields, makes: true},
		api.Load:   {r: variable, s: variable, n: (*walk).field},
		api.Store:  {r: variable, s: variable, n: (*walk).field},
		api.Get:    {r: variable, n: (*walk).global},
		api.Set:    {s: variable, n: (*walk).global},
		api.Call:   {n: (*walk).callee, args: (*walk).calleeParams, rets: (*walk).calleeResults},
		api.Print:  {s: variable},
		api.Jump:   {n: (*walk).target, ends: true},
		api.If:     {s: variable, n: (*walk).target},
		api.Return: {args: (*walk).ownResults, ends: true},
		api.Null:   {r: variable},
		api.Same:   {r: variable, s: variable, t: variable},
	}
}

// namesAll: is every field that the operation does not name zero?
func (r *row) namesAll(x *api.Instr) bool {
	return (r.r != nil || x.R == 0) &&
		(r.s != nil || x.S == 0) &&
		(r.t != nil || x.T == 0) &&
		(r.n != nil || x.N == 0) &&
		(r.args != nil || len(x.Args) == 0) &&
		(r.rets != nil || len(x.Rets) == 0)
}

func (w *walk) variable(place *int) {
	at := w.next(place, 1)
	must(within(*place, 0, w.function.Vars-1), api.ErrVar, at)
}

// numberN brings the instruction's N, which is as wide as its operation says.
func (w *walk) numberN(place *int) int {
	return w.next(place, numberSizes[w.instr.Op])
}

func (w *walk) anyNumber(place *int) { w.numberN(place) }

func (w *walk) fields(place *int) {
	at := w.numberN(place)
	must(within(*place, 1, api.MaxFields), api.ErrField, at)
}

func (w *walk) field(place *int) {
	at := w.numberN(place)
	must(within(*place, 0, api.MaxFields-1), api.ErrField, at)
}

func (w *walk) global(place *int) {
	at := w.numberN(place)
	must(within(*place, 0, w.globals-1), api.ErrGlobal, at)
}

func (w *walk) callee(place *int) {
	at := w.numberN(place)
	must(within(*place, 0, len(w.funcs)-1), api.ErrFunc, at)
}

func (w *walk) target(place *int) {
	at := w.numberN(place)
	must(within(*place, 0, w.length-1), api.ErrJump, at)
}

// list goes through a list of variables that must be so many.
func (w *walk) list(place *[]int, count int) {
	w.count = len(*place)
	at := w.next(&w.count, 1)
	must(w.count == count, api.ErrArity, at)
	if len(*place) != count {
		*place = make([]int, count)
	}
	for i := range *place {
		w.variable(&(*place)[i])
	}
}

func (w *walk) calleeParams(place *[]int) { w.list(place, w.funcs[w.instr.N].Params) }

func (w *walk) calleeResults(place *[]int) { w.list(place, w.funcs[w.instr.N].Results) }

func (w *walk) ownResults(place *[]int) { w.list(place, w.function.Results) }
