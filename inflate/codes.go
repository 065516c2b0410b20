package inflate

import (
	"inquest/api"
	"inquest/huff"
)

const (
	// mostSymbols and mostDistances are how many may have codes in blocks of kind 2.
	mostSymbols   = 286
	mostDistances = 30
	// repeat is the symbol, among those of lengths, that tells the length ahead of it again; the two above it tell zeros.
	repeat = 16
)

// order is in which order the lengths of the code of lengths come.
var order = [19]int{16, 17, 18, 0, 8, 7, 9, 6, 10, 5, 11, 4, 12, 3, 13, 2, 14, 1, 15}

// takeCodes takes the lengths that stand ahead of a block of kind 2: symbols come next, by their codes.
func (r *Reader) takeCodes() api.Errno {
	v, is := r.in.bits.Bits(14)
	if !is {
		return api.ErrEnd
	}
	symbols, distances := v&31+257, v>>5&31+1
	if symbols > mostSymbols || distances > mostDistances {
		return api.ErrData
	}
	code, e := r.takeLengthsCode(v>>10 + 4)
	if e != api.OK {
		return e
	}
	lengths, e := r.takeLengths(code, symbols+distances)
	if e != api.OK {
		return e
	}
	return r.useLengths(lengths[:symbols], lengths[symbols:])
}

// takeLengthsCode takes so many lengths, and tells the code of lengths that is theirs.
func (r *Reader) takeLengthsCode(many int) (*huff.Code, api.Errno) {
	var lengths [len(order)]int
	for _, symbol := range order[:many] {
		n, is := r.in.bits.Bits(3)
		if !is {
			return nil, api.ErrEnd
		}
		lengths[symbol] = n
	}
	return codeOf(lengths[:], 1)
}

// takeLengths takes so many lengths by their code, repeats among them.
func (r *Reader) takeLengths(code *huff.Code, many int) ([]int, api.Errno) {
	var lengths []int
	for len(lengths) < many {
		n, e := code.Next(r.in.bits)
		if e != api.OK {
			return nil, e
		}
		if n == repeat && len(lengths) == 0 {
			return nil, api.ErrData
		}
		times, e := r.takeTimes(n)
		if e != api.OK {
			return nil, e
		}
		if len(lengths)+times > many {
			return nil, api.ErrData
		}
		switch {
		case n == repeat:
			n = lengths[len(lengths)-1]
		case n > repeat:
			n = 0
		}
		for range times {
			lengths = append(lengths, n)
		}
	}
	return lengths, api.OK
}

// takeTimes takes a repeat's own bits, and tells how many lengths it stands for: any other symbol for one.
func (r *Reader) takeTimes(symbol int) (int, api.Errno) {
	own, least := 0, 1
	switch symbol {
	case repeat:
		own, least = 2, 3
	case repeat + 1:
		own, least = 3, 3
	case repeat + 2:
		own, least = 7, 11
	}
	v, is := r.in.bits.Bits(own)
	if !is {
		return 0, api.ErrEnd
	}
	return least + v, api.OK
}

// useLengths has the codes of these lengths come next.
func (r *Reader) useLengths(symbols, distances []int) api.Errno {
	if symbols[theEnd] == 0 {
		return api.ErrData
	}
	s, e := codeOf(symbols, 1)
	if e != api.OK {
		return e
	}
	d, e := codeOf(distances, 0)
	if e != api.OK {
		return e
	}
	r.symbols, r.distances, r.next = s, d, aSymbol
	return api.OK
}

// codeOf is the code of these lengths, which has to be whole. But it may have one bit in all, which is one symbol alone, or even fewer, down to least.
func codeOf(lengths []int, least int) (*huff.Code, api.Errno) {
	code, e := huff.New(lengths...)
	if e != api.OK {
		return nil, e
	}
	sum := 0
	for _, n := range lengths {
		sum += n
	}
	if code.Fill() == huff.Short && (sum < least || sum > 1) {
		return nil, api.ErrData
	}
	return code, api.OK
}
