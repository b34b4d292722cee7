package code

import "fugue/api"

// violation is what is thrown where a program is not as it must be.
type violation struct {
	err api.Errno
	at  int
}

// must throws a violation unless something holds.
func must(holds bool, err api.Errno, at int) {
	if !holds {
		panic(violation{err, at})
	}
}

// firstViolation catches what a walk throws; a walk that comes to its end has none.
func firstViolation(walk func()) (first violation) {
	defer func() {
		if thrown := recover(); thrown != nil {
			// Nothing else is thrown here; if it were, it must not pass for a right program.
			first = thrown.(violation)
		}
	}()
	walk()
	return first
}
