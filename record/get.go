package record

import (
	"inquest/api"
	"inquest/word"
)

// GetLocal is the local head at at, and where it ends.
func GetLocal(b []byte, at int) (api.Head, int, api.Errno) {
	part, e := begun(b, at, localMark, localLong)
	if e != api.OK {
		return api.Head{}, 0, e
	}
	h := api.Head{At: at}
	var version, name, beside int
	part = get(part, 2, &version)
	getShared(part, &h, &name, &beside)
	rest, e := word.Cut(b, at+localLong, name+beside)
	if e != api.OK {
		return api.Head{}, 0, e
	}
	h.Name = rest[:name]
	h.Wide, e = widen(rest[name:], &h.Size, &h.Csize)
	if e != api.OK {
		return api.Head{}, 0, e
	}
	return h, at + localLong + len(rest), api.OK
}

// GetCentral is the central head at at, and where it ends.
func GetCentral(b []byte, at int) (api.Head, int, api.Errno) {
	part, e := begun(b, at, centralMark, centralLong)
	if e != api.OK {
		return api.Head{}, 0, e
	}
	var h api.Head
	var version, name, beside, comment, disk, inner, outer int
	part = get(part, 2, &version, &version)
	part = getShared(part, &h, &name, &beside)
	part = get(part, 2, &comment, &disk, &inner)
	get(part, 4, &outer, &h.At)
	rest, e := word.Cut(b, at+centralLong, name+beside+comment)
	if e != api.OK {
		return api.Head{}, 0, e
	}
	h.Name = rest[:name]
	h.Wide, e = widen(rest[name:name+beside], &h.Size, &h.Csize, &h.At)
	if e != api.OK {
		return api.Head{}, 0, e
	}
	return h, at + centralLong + len(rest), api.OK
}

// begun is what is behind the mark of the part of so many bytes that must be at at.
func begun(b []byte, at int, mark string, long int) ([]byte, api.Errno) {
	first, e := word.Cut(b, at, markLong)
	if e != api.OK {
		return nil, e
	}
	if !begins(first, mark) {
		return nil, api.ErrForm
	}
	return word.Cut(b, at+markLong, long-markLong)
}

// get reads the numbers that stand in w bytes each at the beginning of b, one behind the other, and is what is behind them. They must be there.
func get(b []byte, w int, into ...*int) []byte {
	for i, n := range into {
		*n, _ = word.Get(b, i*w, w)
	}
	return b[len(into)*w:]
}

// getWide is get of numbers in 8 bytes: more than word gets at once.
func getWide(b []byte, into ...*int) []byte {
	for _, n := range into {
		var low, high int
		b = get(b, wideLong/2, &low, &high)
		*n = high<<32 | low
	}
	return b
}

// getShared reads what local and central heads have alike, and is what is behind it.
func getShared(b []byte, h *api.Head, name, beside *int) []byte {
	var crc int
	b = get(b, 2, &h.Flags, &h.Method)
	b = get(b, 4, &h.Dos, &crc, &h.Csize, &h.Size)
	h.Crc = uint32(crc)
	return get(b, 2, name, beside)
}

// widen lets what the sizes' item beside tells stand for those of the numbers that are all ones, and tells whether there are such.
func widen(beside []byte, numbers ...*int) (bool, api.Errno) {
	told, within := sizes(beside)
	if !within {
		return false, api.ErrForm
	}
	wide := false
	for _, n := range numbers {
		if *n != ones(4) {
			continue
		}
		if len(told) < wideLong {
			return false, api.ErrForm
		}
		told = getWide(told, n)
		if !word.Fits(broadest, *n) {
			return false, api.ErrForm
		}
		wide = true
	}
	return wide, api.OK
}

// sizes is what the first item that tells sizes has, or nothing, and whether no item goes beyond the end.
func sizes(beside []byte) ([]byte, bool) {
	var found []byte
	is := false
	for len(beside) > 0 {
		if len(beside) < itemLong {
			return nil, false
		}
		var number, long int
		beside = get(beside, 2, &number, &long)
		if len(beside) < long {
			return nil, false
		}
		if number == sizesItem && !is {
			found, is = beside[:long], true
		}
		beside = beside[long:]
	}
	return found, true
}
