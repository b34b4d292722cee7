package cache

import (
	"runtime/debug"
	"testing"
)

// An entry with a part that is too long for u32 is not kept; at the bound it is. (Nothing is laid into the bytes, so that hardly any memory is taken.)
func TestTooLongForItsLength(t *testing.T) {
	defer debug.FreeOSMemory()
	long := make([]byte, 1<<32)
	most := long[:1<<32-1]
	for _, x := range []struct {
		what string
		pair
		want int
	}{
		{"short ones", pair{nil, nil}, 1},
		{"a result at the bound", pair{most, nil}, 1},
		{"a certificate at the bound", pair{nil, most}, 1},
		{"both at the bound", pair{most, most}, 1},
		{"a result too long", pair{long, nil}, 0},
		{"a certificate too long", pair{nil, long}, 0},
		{"both too long", pair{long, long}, 0},
		{"the one too long", pair{most, long}, 0},
	} {
		c := New()
		c.keep(entry{"key", x.pair})
		if len(c.entries) != x.want {
			t.Errorf("P21.3: %s: %d entries, want %d", x.what, len(c.entries), x.want)
		}
	}
}

// A component without a key finds no entry, whatever keys there are, and leaves none.
func TestNoKey(t *testing.T) {
	c := New()
	c.keep(entry{"", pair{[]byte("result"), []byte("certificate")}})
	if l, is := c.believed(closed{}); is || len(l) > 0 {
		t.Errorf("P21.1: an entry without a key is believed")
	}
	c.learn(closed{}, nil)
	if x := c.entries[""]; len(c.entries) != 1 || string(x.result) != "result" {
		t.Errorf("P21.1: a component without a key is kept")
	}
}
