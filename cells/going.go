package cells

import (
	"slices"

	"fugue/api"
)

// endCellsAbove takes away the cells of frames that were made behind a number. As the list rises, it need not look at those of older frames.
func (m *Memory) endCellsAbove(number int) {
	left := len(m.passing)
	for left > 0 && m.passing[left-1] > number {
		left--
		delete(m.there, m.passing[left])
	}
	m.passing = m.passing[:left]
}

// mayDrop: may all of these go at once? All are looked at ahead of the first that goes, so that with an error none has gone.
func (m *Memory) mayDrop(cells []int) api.Errno {
	for _, n := range cells {
		if !m.wasMade(n) {
			return api.ErrArg
		}
	}
	rising := slices.Sorted(slices.Values(cells))
	for i, n := range rising {
		if !m.isThere(n) || i > 0 && rising[i-1] == n {
			return api.ErrDangle
		}
	}
	return api.OK
}

// forgetDropped keeps passing at most twice as long as what is there: else a frame that stays would remember each cell that it ever made. At least half of the list goes each time, so a drop costs hardly more for it.
func (m *Memory) forgetDropped() {
	if len(m.passing) > 2*len(m.there) {
		m.passing = slices.DeleteFunc(m.passing, func(n int) bool { return !m.isThere(n) })
	}
}
