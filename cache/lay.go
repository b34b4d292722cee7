package cache

// How a cache is laid: its mark, then the entries; each part of one has its length ahead.
const (
	mark       = "fg\x02"
	lengthSize = 4
)

// laid: an entry behind what is laid already.
func (x entry) laid(b []byte) []byte {
	for _, part := range [][]byte{[]byte(x.key), x.result, x.certificate} {
		b = append(layLength(b, len(part)), part...)
	}
	return b
}

func layLength(b []byte, n int) []byte {
	for range lengthSize {
		b = append(b, byte(n))
		n >>= 8
	}
	return b
}
