package inflate

import (
	"inquest/api"
	"inquest/huff"
)

const (
	// theEnd is the symbol that ends a block; above it are copies, up to lastCopy, which is the longest one, and has no bits of its own.
	theEnd   = 256
	lastCopy = 285
	longest  = 258
	// lastDistance is the last distance that there is.
	lastDistance = 29
	// fixedSymbols and fixedDistances have codes in blocks of kind 1: more than there are.
	fixedSymbols   = 288
	fixedDistances = 32
)

// takeHead takes a block's head: behind it come stored bytes, or symbols.
func (r *Reader) takeHead() api.Errno {
	v, is := r.in.bits.Bits(3)
	if !is {
		return api.ErrEnd
	}
	r.last = v&1 == 1
	switch v >> 1 {
	case 0:
		return r.takeLength()
	case 1:
		return r.useFixed()
	case 2:
		return r.takeCodes()
	}
	return api.ErrData
}

// takeLength takes how many bytes are stored.
func (r *Reader) takeLength() api.Errno {
	r.in.bits.Align()
	n, _ := r.in.bits.Bits(16)
	turned, is := r.in.bits.Bits(16)
	if !is {
		return api.ErrEnd
	}
	if n^turned != 1<<16-1 {
		return api.ErrData
	}
	r.left, r.next = n, aStored
	return api.OK
}

// useFixed has the codes of kind 1 come next.
func (r *Reader) useFixed() api.Errno {
	if r.fixed[0] == nil {
		r.fixed = fixedCodes()
	}
	r.symbols, r.distances, r.next = r.fixed[0], r.fixed[1], aSymbol
	return api.OK
}

// fixedCodes are the codes of kind 1, of symbols and of distances.
func fixedCodes() [2]*huff.Code {
	var lengths [fixedSymbols + fixedDistances]int
	for i := range lengths {
		switch {
		case i < 144:
			lengths[i] = 8
		case i < 256:
			lengths[i] = 9
		case i < 280:
			lengths[i] = 7
		case i < fixedSymbols:
			lengths[i] = 8
		default:
			lengths[i] = 5
		}
	}
	symbols, _ := huff.New(lengths[:fixedSymbols]...)
	distances, _ := huff.New(lengths[fixedSymbols:]...)
	return [2]*huff.Code{symbols, distances}
}

// takeSymbol takes a symbol, with its distance, if it has one: left is how many bytes it tells, 0 if it ends the block.
func (r *Reader) takeSymbol() api.Errno {
	symbol, e := r.symbols.Next(r.in.bits)
	switch {
	case e != api.OK:
		return e
	case symbol < theEnd:
		r.left, r.back, r.one = 1, 0, byte(symbol)
		return api.OK
	case symbol == theEnd:
		r.left = 0
		return api.OK
	case symbol > lastCopy:
		return api.ErrData
	}
	return r.takeCopy(symbol)
}

// takeCopy takes what is behind a symbol that tells a copy: bits of its own, and the distance.
func (r *Reader) takeCopy(symbol int) api.Errno {
	long, e := longest-3, api.OK
	if symbol < lastCopy {
		long, e = r.in.spread(symbol-theEnd-1, 4)
	}
	if e != api.OK {
		return e
	}
	distance, e := r.distances.Next(r.in.bits)
	if e != api.OK {
		return e
	}
	if distance > lastDistance {
		return api.ErrData
	}
	back, e := r.in.spread(distance, 2)
	if e != api.OK {
		return e
	}
	if back+1 > r.kept.many() {
		return api.ErrData
	}
	r.left, r.back = long+3, back+1
	return api.OK
}
