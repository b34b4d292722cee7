package cert

import "math/bits"

const wordBits = 64

// open: a set of numbers, a bit each, of which the lowest is taken. Below the word low there are none, so that what lies far below what is open is not gone through each time.
type open struct {
	words []uint64
	low   int
}

func newOpen(numbers int) *open { return &open{words: make([]uint64, numbers/wordBits+1)} }

func (o *open) put(n int) {
	o.words[n/wordBits] |= 1 << (n % wordBits)
	o.low = min(o.low, n/wordBits)
}

// take: the lowest, which is then no more there.
func (o *open) take() (int, bool) {
	for ; o.low < len(o.words); o.low++ {
		if word := o.words[o.low]; word != 0 {
			bit := bits.TrailingZeros64(word)
			o.words[o.low] &^= 1 << bit
			return o.low*wordBits + bit, true
		}
	}
	return 0, false
}
