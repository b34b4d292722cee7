package whole

// row: how many numbers of functions, one behind the other, are counted together.
const row = 64

// open: the functions that are open, told in rising order. Their numbers are counted by rows, so that the one at a place is found without telling all that stand ahead of it.
type open struct {
	functions map[int]struct{}
	rows      []int
}

// newOpen: all of so many functions.
func newOpen(many int) open {
	o := open{make(map[int]struct{}, many), make([]int, many/row+1)}
	for f := range many {
		o.put(f)
	}
	return o
}

func (o open) many() int { return len(o.functions) }

func (o open) has(f int) bool {
	_, is := o.functions[f]
	return is
}

func (o open) put(f int) {
	if !o.has(f) {
		o.functions[f] = struct{}{}
		o.rows[f/row]++
	}
}

// take: the function that a pick names is open no more.
func (o open) take(pick int) int {
	c := o.many()
	f := o.at((pick%c + c) % c)
	delete(o.functions, f)
	o.rows[f/row]--
	return f
}

// at: the open function at a place, which is one.
func (o open) at(place int) int {
	r := 0
	for ; place >= o.rows[r]; r++ {
		place -= o.rows[r]
	}
	f := r * row
	for ; place > 0 || !o.has(f); f++ {
		if o.has(f) {
			place--
		}
	}
	return f
}
