package hist

const noCall = -1

// set: calls by their numbers; there are at most mostCalls.
type set uint64

// firsts: the calls with the numbers below many.
func firsts(many int) set { return set(1)<<many - 1 }

func (s set) has(i int) bool { return s>>i&1 == 1 }

func (s set) with(i int) set { return s | 1<<i }

func (s set) without(i int) set { return s &^ (1 << i) }

// leastFree: the least call of a set that waits for none of it; noCall, if each one does: then there is a ring among them.
func leastFree(left set, waits []set) int {
	for i, w := range waits {
		if left.has(i) && left&w == 0 {
			return i
		}
	}
	return noCall
}
