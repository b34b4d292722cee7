package solve

import "math/bits"

const wordBits = 64

// open: a set of numbers, a bit each, so that a round in which few of many are open takes hardly any time.
type open []uint64

func newOpen(numbers int) open { return make(open, (numbers+wordBits-1)/wordBits) }

func (o open) put(n int) { o[n/wordBits] |= 1 << (n % wordBits) }

// take: the lowest from that number on, which is then no more there.
func (o open) take(from int) (int, bool) {
	first := from / wordBits
	for w := first; w < len(o); w++ {
		word := o[w]
		if w == first {
			word &= ^uint64(0) << (from % wordBits)
		}
		if word != 0 {
			bit := bits.TrailingZeros64(word)
			o[w] &^= 1 << bit
			return w*wordBits + bit, true
		}
	}
	return 0, false
}
