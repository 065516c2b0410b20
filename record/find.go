package record

import (
	"inquest/api"
	"inquest/word"
)

// farthest is how many bytes a tail has at the most, with a comment whose length just stands in 2 bytes.
const farthest = endLong + 1<<16 - 1

// Find is the tail of b.
func Find(b []byte) (api.Tail, api.Errno) {
	at, is := last(b)
	if !is {
		return api.Tail{}, api.ErrForm
	}
	t := getEnd(b[at:])
	// Of the numbers that so many bytes can have, just the one that is all ones may not be.
	if fits(false, 2, t.Many) && fits(false, 4, t.Long, t.At) {
		return t, api.OK
	}
	t, is = wideTail(b, at)
	if !is {
		return api.Tail{}, api.ErrForm
	}
	return t, api.OK
}

// last is the last place of b at which there is a tail.
func last(b []byte) (int, bool) {
	for at := len(b) - endLong; at >= max(0, len(b)-farthest); at-- {
		if begins(b[at:], endMark) && reaches(b[at:]) {
			return at, true
		}
	}
	return 0, false
}

// reaches tells whether the tail at the beginning of b ends where b does.
func reaches(b []byte) bool {
	var comment int
	get(b[endLong-2:], 2, &comment)
	return endLong+comment == len(b)
}

// getEnd is what the tail at the beginning of b tells by itself.
func getEnd(b []byte) api.Tail {
	var t api.Tail
	var disk, many int
	b = get(b[markLong:], 2, &disk, &disk, &many, &t.Many)
	get(b, 4, &t.Long, &t.At)
	return t
}

// wideTail is what the wide tail ahead of at tells.
func wideTail(b []byte, at int) (api.Tail, bool) {
	part, e := begun(b, at-secondLong, secondMark, secondLong)
	if e != api.OK {
		return api.Tail{}, false
	}
	var disk, where int
	getWide(get(part, 4, &disk), &where)
	part, e = begun(b, where, firstMark, firstLong)
	if e != api.OK {
		return api.Tail{}, false
	}
	t := api.Tail{Wide: true}
	var long, version, many int
	part = getWide(part, &long)
	part = get(part, 2, &version, &version)
	part = get(part, 4, &disk, &disk)
	getWide(part, &many, &t.Many, &t.Long, &t.At)
	return t, word.Fits(broadest, t.Many, t.Long, t.At)
}
