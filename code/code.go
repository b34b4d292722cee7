// Package code: programs as bytes: see doc/01-code.md.
package code

import "fugue/api"

// Check: is it a right program? The first violation in the order of the bytes.
func Check(p api.Program) api.Errno {
	w := newWalk(leave)
	return firstViolation(func() { w.over(p) }).err
}

// Encode: a right program as bytes.
func Encode(p api.Program) ([]byte, api.Errno) {
	b := writer{bytes: []byte(magic)}
	w := newWalk(b.number)
	if first := firstViolation(func() { w.over(p) }); first.err != api.OK {
		return nil, first.err
	}
	return b.bytes, api.OK
}

// Decode: the program that some bytes are; or the error and its offset.
func Decode(b []byte) (api.Program, api.Errno, int) {
	r := reader{bytes: b}
	w := newWalk(r.number)
	var p api.Program
	if first := firstViolation(func() { p = w.through(r) }); first.err != api.OK {
		return api.Program{}, first.err, first.at
	}
	return p, api.OK, 0
}

// Locations: how many locations a program has.
func Locations(p api.Program) int {
	w := newWalk(leave)
	if first := firstViolation(func() { w.over(p) }); first.err != api.OK {
		return 0
	}
	return w.locations
}
