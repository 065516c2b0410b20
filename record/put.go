package record

import (
	"slices"

	"inquest/api"
	"inquest/word"
)

// Local is h as a local head.
func Local(h api.Head) ([]byte, api.Errno) {
	if !may(h) {
		return nil, api.ErrArg
	}
	if described(h) {
		h.Crc, h.Csize, h.Size = 0, 0, 0
	}
	beside := item(h.Wide, h.Size, h.Csize)
	b := word.Put([]byte(localMark), 2, version(h.Wide))
	b = putShared(b, h, len(beside))
	return slices.Concat(b, h.Name, beside), api.OK
}

// Central is h as a central head.
func Central(h api.Head) ([]byte, api.Errno) {
	if !may(h) {
		return nil, api.ErrArg
	}
	beside := item(h.Wide, h.Size, h.Csize, h.At)
	b := word.Put([]byte(centralMark), 2, version(h.Wide), version(h.Wide))
	b = putShared(b, h, len(beside))
	const comment, disk, inner, outer = 0, 0, 0, 0
	b = word.Put(b, 2, comment, disk, inner)
	b = word.Put(b, 4, outer)
	b = word.Put(b, 4, narrow(h.Wide, h.At)...)
	return slices.Concat(b, h.Name, beside), api.OK
}

// may tells whether all numbers of h may be.
func may(h api.Head) bool {
	return word.Fits(2, h.Flags, h.Method, len(h.Name)) && word.Fits(4, h.Dos) && fits(h.Wide, 4, h.Csize, h.Size, h.At)
}

// described tells whether h's sum and sizes stand behind its data.
func described(h api.Head) bool { return h.Flags&api.Described != 0 }

// version is what a reader must know.
func version(wide bool) int {
	if wide {
		return wideVersion
	}
	return plainVersion
}

// putShared is b, and behind it what local and central heads have alike.
func putShared(b []byte, h api.Head, beside int) []byte {
	b = word.Put(b, 2, h.Flags, h.Method)
	b = word.Put(b, 4, h.Dos, int(h.Crc))
	b = word.Put(b, 4, narrow(h.Wide, h.Csize, h.Size)...)
	return word.Put(b, 2, len(h.Name), beside)
}

// narrow are the numbers as they stand where there is no room for wide ones: if they are wide, as -1, whose bytes are all ones however many there are.
func narrow(wide bool, numbers ...int) []int {
	if !wide {
		return numbers
	}
	return slices.Repeat([]int{-1}, len(numbers))
}

// item is what is beside a head: if it is wide, the item that tells the numbers.
func item(wide bool, numbers ...int) []byte {
	if !wide {
		return nil
	}
	return putWide(word.Put(nil, 2, sizesItem, wideLong*len(numbers)), numbers...)
}

// putWide is b, and behind it the numbers, each in 8 bytes: more than word puts at once.
func putWide(b []byte, numbers ...int) []byte {
	for _, n := range numbers {
		b = word.Put(b, wideLong/2, n, n>>32)
	}
	return b
}

// Behind is what is behind h's data.
func Behind(h api.Head) []byte {
	if !described(h) {
		return nil
	}
	b := word.Put([]byte(behindMark), 4, int(h.Crc))
	if h.Wide {
		return putWide(b, h.Csize, h.Size)
	}
	return word.Put(b, 4, h.Csize, h.Size)
}

// End is t as a tail that begins at at.
func End(t api.Tail, at int) ([]byte, api.Errno) {
	if !fits(t.Wide, 2, t.Many) || !fits(t.Wide, 4, t.Long, t.At) || !word.Fits(broadest, at) {
		return nil, api.ErrArg
	}
	const disk, comment = 0, 0
	b := word.Put([]byte(endMark), 2, disk, disk)
	b = word.Put(b, 2, narrow(t.Wide, t.Many, t.Many)...)
	b = word.Put(b, 4, narrow(t.Wide, t.Long, t.At)...)
	b = word.Put(b, 2, comment)
	if !t.Wide {
		return b, api.OK
	}
	return slices.Concat(first(t), second(at), b), api.OK
}

// first is the wide tail's first part, that tells t.
func first(t api.Tail) []byte {
	// The part's length is told without the mark and the length itself.
	const long, disk = firstLong - 12, 0
	b := putWide([]byte(firstMark), long)
	b = word.Put(b, 2, wideVersion, wideVersion)
	b = word.Put(b, 4, disk, disk)
	return putWide(b, t.Many, t.Many, t.Long, t.At)
}

// second is the wide tail's second part, that tells where the first one begins.
func second(at int) []byte {
	const disk, disks = 0, 1
	b := word.Put([]byte(secondMark), 4, disk)
	return word.Put(putWide(b, at), 4, disks)
}
