package deque

// ring: things in a line whose two ends go round in one piece of room, so that a line that moves on and on takes no more of it.
type ring[T any] struct {
	room []T
	far  int // where the thing at the far end lies, if there is one
	many int
}

func (r *ring[T]) push(x T) {
	if r.many == len(r.room) {
		r.grow()
	}
	r.room[r.place(r.many)] = x
	r.many++
}

func (r *ring[T]) pop() (T, bool) {
	if r.many == 0 {
		var none T
		return none, false
	}
	r.many--
	return r.take(r.place(r.many)), true
}

func (r *ring[T]) steal() (T, bool) {
	if r.many == 0 {
		var none T
		return none, false
	}
	x := r.take(r.far)
	r.far = r.place(1)
	r.many--
	return x, true
}

// place: where the thing lies that comes so many behind the one at the far end.
func (r *ring[T]) place(behind int) int { return (r.far + behind) % len(r.room) }

// take: nothing of it stays, so that the ring keeps nothing alive that has left it.
func (r *ring[T]) take(at int) T {
	var none T
	x := r.room[at]
	r.room[at] = none
	return x
}

// grow: twice the room, so that all pushes together move no more things than a few times their number. The line begins anew at the room's beginning, since the old seam would tear it.
func (r *ring[T]) grow() {
	room := make([]T, max(1, 2*len(r.room)))
	ahead := copy(room, r.room[r.far:])
	copy(room[ahead:], r.room[:r.far])
	r.room, r.far = room, 0
}
