package cert

import (
	"fugue/api"
	"fugue/whole"
)

// judged: a refusal, or nothing, if the bytes are those of a certificate that is right for the program, which is right, and the result. Each pass makes a number fall, from the lowest summaries on; so where nothing changes any more nothing has fallen further than it must.
func judged(p api.Program, r api.Result, b []byte) error {
	from := &reader{b: b}
	if len(b) > longest(p) {
		return from.refused("more passes than may each change something")
	}
	w := newWalk(p)
	if err := through(w, from); err != nil {
		return err
	}
	if is, _ := whole.Is(p, w.sums); !is { // neither this nor Place refuses right summaries of a right program
		return from.refused("a function that would change")
	}
	if least, _ := whole.Place(p, w.sums); !sameResult(least, r) {
		return from.refused("another result")
	}
	return nil
}

// through: to go through the passes that the bytes tell, as long as each changes something.
func through(w walk, from *reader) error {
	many, err := from.head()
	if err != nil {
		return err
	}
	for range many {
		f, err := from.pass(len(w.p.Funcs))
		if err != nil {
			return err
		}
		if !w.pass(f) {
			return from.refused("a pass that changes nothing")
		}
	}
	return nil
}

// longest: how many bytes a right certificate of the program has at most: numbers only fall, from None by way of MaxDeref down to 0.
func longest(p api.Program) int {
	numbers := 0
	for _, f := range p.Funcs {
		numbers += f.Params * (1 + f.Results)
	}
	return headSize + passSize*(api.MaxDeref+1)*numbers
}
