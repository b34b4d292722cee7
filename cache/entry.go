package cache

import (
	"math"
	"slices"

	"fugue/api"
	"fugue/cert"
	"fugue/sums"
	"fugue/whole"
)

// pair: what is told of a program, and why that should be so.
type pair struct {
	result, certificate []byte
}

// believed: the summaries that are told of a program, if they are its least ones.
func (x pair) believed(p api.Program) ([]api.Summary, bool) {
	r, e := sums.DecodeResult(p, x.result)
	if e != api.OK || cert.Check(p, r, x.certificate) != api.OK {
		return nil, false
	}
	return r.Sums, true
}

// entry: a pair under its key.
type entry struct {
	key string
	pair
}

// fits: may its lengths stand in the bytes of a cache?
func (x entry) fits() bool {
	return uint64(max(len(x.key), len(x.result), len(x.certificate))) <= math.MaxUint32
}

// believed: the summaries of a component's functions, if there is an entry that is believed. (None is of a program without a key, which is not right, even under the key without bytes.)
func (c *Cache) believed(x closed) ([]api.Summary, bool) {
	found, is := c.entries[x.key]
	if !is {
		return nil, false
	}
	l, is := found.believed(x.program)
	if !is {
		return nil, false
	}
	return l[:x.members], true
}

// learn: the entry of a component whose functions have these summaries, if it has a key.
func (c *Cache) learn(x closed, own []api.Summary) {
	if x.key == "" {
		return
	}
	r, _ := whole.Place(x.program, slices.Concat(own, x.stubs)) // what has a key is right
	result, _ := sums.EncodeResult(x.program, r)
	certificate, _ := cert.Make(x.program)
	c.keep(entry{x.key, pair{result, certificate}})
}

func (c *Cache) keep(x entry) {
	if x.fits() {
		c.entries[x.key] = x
	}
}
