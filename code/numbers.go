package code

import "fugue/api"

// magic is what every program's bytes begin with.
const magic = "fugue\x01"

// leave is for a program of which no bytes are wanted: its numbers stand in their places already.
func leave(place *int, at, size int) {}

// reader brings numbers from bytes to their places.
type reader struct {
	bytes []byte
}

func (r reader) number(place *int, at, size int) {
	must(size <= len(r.bytes)-at, api.ErrShort, len(r.bytes))
	n := uint64(0)
	for i, c := range r.bytes[at : at+size] {
		n |= uint64(c) << (8 * i)
	}
	*place = int(n)
}

// begins asks for the magic bytes. Of bytes that end within them only what is there is asked: the number that must stand behind them finds that they are too short.
func (r reader) begins() {
	n := min(len(r.bytes), len(magic))
	must(string(r.bytes[:n]) == magic[:n], api.ErrMagic, 0)
}

// writer lays numbers from their places into bytes. One that is too great for its bytes is cut: the walk asks right behind whether it may be so, and then no bytes are handed out.
type writer struct {
	bytes []byte
}

func (b *writer) number(place *int, at, size int) {
	n := uint64(*place)
	for range size {
		b.bytes = append(b.bytes, byte(n))
		n >>= 8
	}
}
