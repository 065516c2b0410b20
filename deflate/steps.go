package deflate

import (
	mathbits "math/bits"

	"inquest/api"
)

const (
	// theEnd is the symbol that ends a block; above it are copies, up to lastCopy, which is the longest one alone.
	theEnd   = 256
	lastCopy = 285
	// shortest and longest are how many bytes a copy has.
	shortest = 3
	longest  = 258
)

// step is a symbol that is no copy, or, if back isn't 0, a copy of so many bytes from so far back. It is small: there may be 2^24 of them.
type step struct{ what, back uint16 }

// symbol is the step's symbol, how many bits of its own that has, and these.
func (s step) symbol() (int, int, int) {
	switch {
	case s.back == 0:
		return int(s.what), 0, 0
	case s.what == longest:
		return lastCopy, 0, 0
	}
	code, own, v := folded(int(s.what)-shortest, 4)
	return theEnd + 1 + code, own, v
}

// distance is the code of a copy's distance, how many bits of its own that has, and these.
func (s step) distance() (int, int, int) { return folded(int(s.back)-1, 2) }

// folded is the code that stands for v with bits of its own, how many, and these. The codes are in rows, so many in each: from the third row on each row's codes have one bit more than the row's ahead.
func folded(v, row int) (int, int, int) {
	own := max(0, mathbits.Len(uint(v/row))-1)
	return own*row + v>>own, own, v & (1<<own - 1)
}

// stepsOf are the steps that b is told by, and the end.
func stepsOf(b []byte) []step {
	f := &finder{b: b, last: map[[shortest]byte]int{}}
	var steps []step
	for at := 0; at < len(b); {
		long, back := f.find(at)
		if long == 0 {
			steps = append(steps, step{what: uint16(b[at])})
			long = 1
		} else {
			steps = append(steps, step{uint16(long), uint16(back)})
		}
		for range long {
			f.pass(at)
			at++
		}
	}
	return append(steps, step{what: theEnd})
}

// finder finds what came ahead.
type finder struct {
	b []byte
	// last is where three bytes came last, of all that came within the window.
	last map[[shortest]byte]int
}

// find tells how many of the bytes from at on came ahead, and how far back: none, if fewer than three did.
func (f *finder) find(at int) (int, int) {
	if !f.whole(at) {
		return 0, 0
	}
	from, is := f.last[f.three(at)]
	if !is {
		return 0, 0
	}
	most := min(longest, len(f.b)-at)
	long := shortest
	for long < most && f.b[from+long] == f.b[at+long] {
		long++
	}
	return long, at - from
}

// pass has the three bytes from at on come. Those that are then farther back than may be copied from the next byte on are forgotten.
func (f *finder) pass(at int) {
	if !f.whole(at) {
		return
	}
	if old := at - api.Window; old >= 0 && f.last[f.three(old)] == old {
		delete(f.last, f.three(old))
	}
	f.last[f.three(at)] = at
}

// whole tells whether there are three bytes from at on.
func (f *finder) whole(at int) bool { return at+shortest <= len(f.b) }

// three are the three bytes from at on.
func (f *finder) three(at int) [shortest]byte {
	return [shortest]byte{f.b[at], f.b[at+1], f.b[at+2]}
}
