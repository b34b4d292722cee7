package front

import "fugue/api"

// refusal is what is thrown where a source is not as it must be.
type refusal struct {
	err  api.Errno
	line int
}

// must gives up, however deep inside, unless something holds.
func must(holds bool, err api.Errno, line int) {
	if !holds {
		panic(refusal{err, line})
	}
}

// caught tells what reading throws; of what comes to its end that is nothing.
func caught(reading func()) (first refusal) {
	defer func() {
		if thrown := recover(); thrown != nil {
			// Nothing else is thrown here; if it were, it must not pass for an answer.
			first = thrown.(refusal)
		}
	}()
	reading()
	return first
}
