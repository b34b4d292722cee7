package cert

import "strconv"

// refusal: why bytes are not believed, and how far they were read then.
type refusal struct {
	place
	why string
}

func (r *refusal) Error() string {
	return "no certificate, at the byte " + strconv.Itoa(r.at) + ": " + r.why
}
