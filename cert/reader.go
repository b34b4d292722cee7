package cert

// How a certificate is laid: the two bytes of its mark, how many passes, the passes.
const (
	mark      = "ce"
	countSize = 4
	passSize  = 2
	headSize  = len(mark) + countSize
)

// laid: the bytes of a certificate with these passes.
func laid(passes []int) []byte {
	b := make([]byte, 0, headSize+passSize*len(passes))
	b = append(b, mark...)
	b = layNumber(b, len(passes), countSize)
	for _, f := range passes {
		b = layNumber(b, f, passSize)
	}
	return b
}

func layNumber(b []byte, n, size int) []byte {
	for range size {
		b = append(b, byte(n))
		n >>= 8
	}
	return b
}

// place: how many bytes are read.
type place struct {
	at int
}

func (p *place) goOn(many int) { p.at += many }

// reader takes a certificate's things from bytes, one behind the other. It makes no list of them, so that a count asks for no memory.
type reader struct {
	place
	b []byte
}

func (r *reader) left() int { return len(r.b) - r.at }

func (r *reader) refused(why string) error { return &refusal{r.place, why} }

// take: the next bytes, which are not to be written to.
func (r *reader) take(many int) ([]byte, error) {
	if many > r.left() {
		return nil, r.refused("the bytes end here")
	}
	b := r.b[r.at : r.at+many]
	r.goOn(many)
	return b, nil
}

func (r *reader) number(size int) (int, error) {
	b, err := r.take(size)
	n := 0
	for i, x := range b {
		n |= int(x) << (8 * i)
	}
	return n, err
}

// head: how many passes stand behind it: just as many as it says.
func (r *reader) head() (int, error) {
	b, err := r.take(len(mark))
	if err != nil {
		return 0, err
	}
	if string(b) != mark {
		return 0, r.refused("another mark")
	}
	many, err := r.number(countSize)
	if err != nil {
		return 0, err
	}
	if r.left()%passSize != 0 || r.left()/passSize != many { // the count is not multiplied: it may be near the greatest that there is
		return 0, r.refused("another number of passes")
	}
	return many, nil
}

// pass: the next one, which names one of so many functions.
func (r *reader) pass(functions int) (int, error) {
	f, err := r.number(passSize)
	if err != nil {
		return 0, err
	}
	if f >= functions {
		return 0, r.refused("a pass of no function")
	}
	return f, nil
}
