// Package word is layer 1: see shared/doc/01-word.md.
package word

import (
	"bytes"

	"inquest/api"
)

// The fewest and the most bytes that a number has.
const (
	narrowest = 1
	widest    = 7
)

// held is w, held within the widths that a number may have.
func held(w int) int { return max(narrowest, min(w, widest)) }

// Put is b, and behind it the numbers, each in w bytes.
func Put(b []byte, w int, numbers ...int) []byte {
	w = held(w)
	// Not appended to b: b's spare room is the caller's, and isn't written.
	out := make([]byte, 0, len(b)+w*len(numbers))
	out = append(out, b...)
	for _, n := range numbers {
		for i := range w {
			out = append(out, byte(n>>(8*i)))
		}
	}
	return out
}

// Get is the number in the w bytes from at on.
func Get(b []byte, at, w int) (int, api.Errno) {
	part, e := piece(b, at, held(w))
	if e != api.OK {
		return 0, e
	}
	n := 0
	for i, x := range part {
		n |= int(x) << (8 * i)
	}
	return n, api.OK
}

// Cut is a copy of the n bytes from at on.
func Cut(b []byte, at, n int) ([]byte, api.Errno) {
	part, e := piece(b, at, n)
	if e != api.OK {
		return nil, e
	}
	return bytes.Clone(part), api.OK
}

// piece is the n bytes of b from at on, in b's own memory.
func piece(b []byte, at, n int) ([]byte, api.Errno) {
	if at < 0 || n < 0 {
		return nil, api.ErrArg
	}
	// Less is taken from the length, and nothing added to at: that could go beyond what an int holds.
	if len(b)-at < n {
		return nil, api.ErrEnd
	}
	return b[at : at+n], api.OK
}

// Fits tells whether each of the numbers can stand in w bytes.
func Fits(w int, numbers ...int) bool {
	w = held(w)
	for _, n := range numbers {
		// Taken as 64 bits without a sign, a number below 0 has its highest ones set, and is too great, too.
		if uint64(n)>>(8*w) != 0 {
			return false
		}
	}
	return true
}
