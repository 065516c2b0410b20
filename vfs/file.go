package vfs

import "inquest/api"

// sector is assigned whole, so that what it was stays apart from what it is.
type sector [api.Sector]byte

// file is one of a store. Behind its end its last sector has zeros.
type file struct {
	long, stamp int
	sectors     []sector
	// waiting has, by its place, what each sector that waits was when it was last synced.
	waiting map[int]sector
}

func newFile() *file { return &file{waiting: map[int]sector{}} }

// takes is how many sectors so many bytes take.
func takes(long int) int { return (long + api.Sector - 1) / api.Sector }

// wait notes that the sector there, which may be a new one behind the last, is about to change.
func (x *file) wait(place int) {
	if place == len(x.sectors) {
		x.sectors = append(x.sectors, sector{})
	}
	if _, waits := x.waiting[place]; !waits {
		x.waiting[place] = x.sectors[place]
	}
}

// write lets b stand from at on, which isn't beyond the end.
func (x *file) write(at int, b []byte) {
	for len(b) > 0 {
		place := at / api.Sector
		x.wait(place)
		n := copy(x.sectors[place][at%api.Sector:], b)
		at, b = at+n, b[n:]
	}
	x.long = max(x.long, at)
}

// cut leaves n bytes, which aren't more than there are.
func (x *file) cut(n int) {
	left := takes(n)
	for place := left; place < len(x.sectors); place++ {
		// If it comes again, it is one that never was synced.
		delete(x.waiting, place)
	}
	x.sectors, x.long = x.sectors[:left], n
	if n%api.Sector != 0 {
		x.wait(left - 1)
	}
	x.blank()
}

// blank puts zeros behind the file's end.
func (x *file) blank() {
	if within := x.long % api.Sector; within != 0 {
		clear(x.sectors[len(x.sectors)-1][within:])
	}
}

// sync lets all sectors last as they are.
func (x *file) sync() { x.waiting = map[int]sector{} }

// crash lets just those of the sectors that wait last whose bit keep has. The first of them is the i-th that waits in the whole store; answered is which one the next file's first is.
func (x *file) crash(keep uint64, i int) int {
	for place := range x.sectors {
		was, waits := x.waiting[place]
		if !waits {
			continue
		}
		if keep>>(i%64)&1 == 0 {
			x.sectors[place] = was
		}
		i++
	}
	x.sync()
	// What a sector was when it was synced may have gone on to where the file's end is now.
	x.blank()
	return i
}

// read is a copy of the n bytes from at on, which are there.
func (x *file) read(at, n int) []byte {
	out := make([]byte, n)
	for b := out; len(b) > 0; {
		n := copy(b, x.sectors[at/api.Sector][at%api.Sector:])
		at, b = at+n, b[n:]
	}
	return out
}
