package cells_test

import (
	"math/rand"
	"slices"
	"testing"

	"fugue/api"
	"fugue/cells"
)

// plainCell, plain: a memory as the chapter's words have it, that forgets nothing and looks for everything from the beginning.
type plainCell struct {
	fields     []api.Value
	frame      int
	heap, gone bool
}

type plain struct {
	globals []api.Value
	frames  []int
	begun   int
	cells   []plainCell
}

func newPlain(globals int) *plain {
	for globals < 0 {
		globals++
	}
	for globals > 16 {
		globals--
	}
	return &plain{globals: make([]api.Value, globals)}
}

func (p *plain) right(v api.Value) bool {
	return v == null || v.Kind == api.Num || v.Kind == api.Ptr && v.N > 0 && v.N <= len(p.cells)
}

func (p *plain) push() api.Errno {
	p.begun++
	p.frames = append(p.frames, p.begun)
	return api.OK
}

func (p *plain) pop() api.Errno {
	if len(p.frames) == 0 {
		return api.ErrFrame
	}
	last := p.frames[len(p.frames)-1]
	p.frames = p.frames[:len(p.frames)-1]
	for i, c := range p.cells {
		p.cells[i].gone = c.gone || !c.heap && c.frame == last
	}
	return api.OK
}

func (p *plain) make(fields int, heap bool) (int, api.Errno) {
	if fields < 1 || fields > 8 {
		return 0, api.ErrArg
	}
	if len(p.frames) == 0 {
		return 0, api.ErrFrame
	}
	p.cells = append(p.cells, plainCell{make([]api.Value, fields), p.frames[len(p.frames)-1], heap, false})
	return len(p.cells), api.OK
}

func (p *plain) place(v api.Value, field int) (*api.Value, api.Errno) {
	switch {
	case !p.right(v):
		return nil, api.ErrArg
	case v.Kind != api.Ptr:
		return nil, api.ErrNil
	case p.cells[v.N-1].gone:
		return nil, api.ErrDangle
	case field < 0 || field >= len(p.cells[v.N-1].fields):
		return nil, api.ErrNoField
	}
	return &p.cells[v.N-1].fields[field], api.OK
}

func (p *plain) load(v api.Value, field int) (api.Value, api.Errno) {
	at, e := p.place(v, field)
	if e != api.OK {
		return null, e
	}
	return *at, e
}

func (p *plain) store(v api.Value, field int, w api.Value) api.Errno {
	if !p.right(w) {
		return api.ErrArg
	}
	at, e := p.place(v, field)
	if e == api.OK {
		*at = w
	}
	return e
}

func (p *plain) live() []int {
	var out []int
	for i, c := range p.cells {
		if !c.gone {
			out = append(out, i+1)
		}
	}
	return out
}

func (p *plain) drop(numbers ...int) api.Errno {
	for _, n := range numbers {
		if n < 1 || n > len(p.cells) {
			return api.ErrArg
		}
	}
	for i, n := range numbers {
		if p.cells[n-1].gone || slices.Contains(numbers[:i], n) {
			return api.ErrDangle
		}
	}
	for _, n := range numbers {
		p.cells[n-1].gone = true
	}
	return api.OK
}

func (p *plain) setGlobal(n int, v api.Value) api.Errno {
	if n < 0 || n >= len(p.globals) || !p.right(v) {
		return api.ErrArg
	}
	p.globals[n] = v
	return api.OK
}

// told: as told of a memory.
func (p *plain) told() []api.Value {
	var out []api.Value
	for n := range 16 {
		if n < len(p.globals) {
			out = append(out, p.globals[n], num(int(api.OK)))
		} else {
			out = append(out, null, num(int(api.ErrArg)))
		}
	}
	for _, n := range p.live() {
		out = append(out, num(n))
	}
	for n := range p.cells {
		for field := range 8 {
			v, e := p.load(ptr(n+1), field)
			out = append(out, v, num(int(e)))
		}
	}
	return out
}

// pair: a memory and a plain one to which the same is done.
type pair struct {
	m *cells.Memory
	p *plain
	r *rand.Rand
}

// number: mostly of a cell that was made.
func (x pair) number() int { return x.r.Intn(len(x.p.cells)+3) - 1 }

func (x pair) value() api.Value {
	switch x.r.Intn(12) {
	case 0:
		return null
	case 1:
		return num(x.r.Intn(9) - 4)
	case 2:
		w := wrongs(len(x.p.cells))
		return w[x.r.Intn(len(w))]
	}
	return ptr(x.number())
}

// some: numbers of cells, mostly such that are there.
func (x pair) some() []int {
	live := x.p.live()
	x.r.Shuffle(len(live), func(i, j int) { live[i], live[j] = live[j], live[i] })
	live = live[:x.r.Intn(len(live)+1)]
	if x.r.Intn(3) == 0 {
		live = append(live, x.number())
	}
	return live
}

// step does one thing to both, and tells whether the answers were the same.
func (x pair) step(kind int) bool {
	v, w, n, field := x.value(), x.value(), x.r.Intn(20)-2, x.r.Intn(10)-1
	switch kind {
	case 0:
		return x.m.Push() == x.p.push()
	case 1:
		return x.m.Pop() == x.p.pop()
	case 2:
		heap := x.r.Intn(3) == 0
		a, e := x.m.Make(field, heap)
		b, f := x.p.make(field, heap)
		return a == b && e == f
	case 3:
		a, e := x.m.Load(v, field)
		b, f := x.p.load(v, field)
		return a == b && e == f
	case 4:
		return x.m.Store(v, field, w) == x.p.store(v, field, w)
	case 5:
		return x.m.SetGlobal(n, v) == x.p.setGlobal(n, v)
	}
	numbers := x.some()
	return x.m.Drop(numbers...) == x.p.drop(numbers...)
}

// Whatever is done, in whatever order, right and wrong calls mixed: each answer, and what is told behind it, is that of the plain memory.
func TestAgreesWithThePlainMemory(t *testing.T) {
	mixes := [][]int{
		{0, 1, 2, 2, 2, 3, 4, 4, 5, 6},
		{0, 0, 1, 2, 2, 4, 5},
		{0, 2, 2, 2, 2, 2, 6},
		{0, 1, 2, 2, 2, 2, 2, 2, 4, 4, 6, 6},
	}
	for seed := range 200 {
		r := rand.New(rand.NewSource(int64(seed)))
		globals := r.Intn(22) - 3
		x := pair{cells.New(globals), newPlain(globals), r}
		mix := mixes[seed%len(mixes)]
		for at := range 150 {
			kind := mix[r.Intn(len(mix))]
			if !x.step(kind) {
				t.Fatalf("P3.1 to P3.8: seed %d, step %d, call %d: another answer than that of the plain memory", seed, at, kind)
			}
			if !slices.Equal(told(x.m, len(x.p.cells)), x.p.told()) {
				t.Fatalf("P3.1 to P3.8: seed %d, step %d, call %d: another memory than the plain one", seed, at, kind)
			}
		}
	}
}
