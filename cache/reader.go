package cache

import "bytes"

// reader takes a cache's things from the beginning of the bytes that are left.
type reader struct {
	left []byte
}

// into: all entries into a cache that has none; false, if the bytes are those of no cache.
func (r *reader) into(c *Cache) bool {
	if opening, is := r.take(len(mark)); !is || string(opening) != mark {
		return false
	}
	for last := ""; len(r.left) > 0; {
		x, is := r.entry()
		if !is || len(c.entries) > 0 && x.key <= last {
			return false
		}
		c.entries[x.key] = x
		last = x.key
	}
	return true
}

// entry: the next one, in memory of its own.
func (r *reader) entry() (entry, bool) {
	key, one := r.part()
	result, two := r.part()
	certificate, three := r.part()
	if !one || !two || !three {
		return entry{}, false
	}
	return entry{string(key), pair{bytes.Clone(result), bytes.Clone(certificate)}}, true
}

func (r *reader) part() ([]byte, bool) {
	length, is := r.take(lengthSize)
	if !is {
		return nil, false
	}
	n := uint64(0) // an int might be too narrow
	for i, x := range length {
		n |= uint64(x) << (8 * i)
	}
	if n > uint64(len(r.left)) {
		return nil, false
	}
	return r.take(int(n))
}

// take: the next bytes, which are neither to be written to nor kept.
func (r *reader) take(many int) ([]byte, bool) {
	if many > len(r.left) {
		return nil, false
	}
	b := r.left[:many]
	r.left = r.left[many:]
	return b, true
}
