package aho

import (
	"bytes"
	"slices"
	"testing"

	"inquest/api"
)

// is asks that the words have this error, and nothing beside.
func is(t *testing.T, why string, words [][]byte, want api.Errno) {
	t.Helper()
	if w, e := New(words...); w != nil || e != want {
		t.Errorf("%s: New(%d words, %.200q): %v, %v, wanted %v", why, len(words), words, w, e, want)
	}
}

// right are so many words that are.
func right(many int) [][]byte {
	var l [][]byte
	for i := range many {
		l = append(l, bytes.Repeat([]byte{byte('a' + i)}, 1+i*9%64))
	}
	return l
}

// with are the words with another one at this place.
func with(words [][]byte, at int, word []byte) [][]byte {
	l := slices.Clone(words)
	l[at] = word
	return l
}

// long are words that are too long, empty ones have no bytes.
var (
	long  = [][]byte{make([]byte, 65), bytes.Repeat([]byte("a"), 65), bytes.Repeat([]byte("ab"), 33), make([]byte, 1000), make([]byte, 1<<20)}
	empty = [][]byte{nil, {}, make([]byte, 0, 99)}
)

// P14.1: ErrMany, of none, and of 9 and more.
func TestErrMany(t *testing.T) {
	is(t, "none", nil, api.ErrMany)
	is(t, "none", [][]byte{}, api.ErrMany)
	is(t, "none", right(8)[:0], api.ErrMany)
	if w, e := New(); w != nil || e != api.ErrMany {
		t.Errorf("New(): %v, %v", w, e)
	}
	for _, many := range []int{9, 10, 16, 17, 100, 256, 257, 264, 1 << 16} {
		l := make([][]byte, many)
		for i := range l {
			l[i] = []byte{byte(i)}
		}
		is(t, "too many", l, api.ErrMany)
		for i := range l {
			l[i] = []byte("a")
		}
		is(t, "too many, though alike", l, api.ErrMany)
	}
	for many := 1; many <= 8; many++ {
		if w, e := New(right(many)...); w == nil || e != api.OK {
			t.Errorf("%d words: %v, %v", many, w, e)
		}
	}
}

// P14.1: ErrLong, wherever among the words the one of more than 64 bytes stands.
func TestErrLong(t *testing.T) {
	for many := 1; many <= 8; many++ {
		for at := range many {
			for _, l := range long {
				is(t, "too long", with(right(many), at, l), api.ErrLong)
				is(t, "too long, twice", with(with(right(many), at, l), many-1-at, long[0]), api.ErrLong)
			}
			words := with(right(many), at, long[1][:64])
			if w, e := New(words...); w == nil || e != api.OK {
				t.Errorf("a word of 64 bytes: %v, %v", w, e)
			}
		}
	}
}

// P14.1, R3: ErrArg, wherever among the words the one without bytes stands; nil is one, too.
func TestErrArg(t *testing.T) {
	for many := 1; many <= 8; many++ {
		for at := range many {
			for _, none := range empty {
				is(t, "no bytes", with(right(many), at, none), api.ErrArg)
				is(t, "no bytes, twice", with(with(right(many), at, none), many-1-at, empty[0]), api.ErrArg)
			}
			if w, e := New(with(right(many), at, []byte{0})...); w == nil || e != api.OK {
				t.Errorf("a word of one byte: %v, %v", w, e)
			}
		}
		is(t, "no bytes in any", make([][]byte, many), api.ErrArg)
	}
}

// P14.1, R2: two errors at once: too long a word and one without bytes, in any order: ErrLong.
func TestLongAndEmpty(t *testing.T) {
	for many := 2; many <= 8; many++ {
		for at := range many {
			for other := range many {
				if other == at {
					continue
				}
				for i, l := range long {
					is(t, "too long, and no bytes", with(with(right(many), at, l), other, empty[i%3]), api.ErrLong)
				}
				is(t, "too long, and no bytes in any other", with(make([][]byte, many), at, long[0]), api.ErrLong)
			}
		}
	}
}

// P14.1, R2: two and three errors at once, one of them ErrMany: that is told.
func TestManyAndOthers(t *testing.T) {
	for _, many := range []int{9, 10, 17} {
		words := make([][]byte, many)
		for i := range words {
			words[i] = []byte{byte(i)}
		}
		is(t, "too many, and no bytes in any", make([][]byte, many), api.ErrMany)
		for at := range many {
			is(t, "too many, and too long", with(words, at, long[0]), api.ErrMany)
			is(t, "too many, and no bytes", with(words, at, nil), api.ErrMany)
			for other := range many {
				if other != at {
					is(t, "too many, too long, and no bytes", with(with(words, at, long[1]), other, empty[1]), api.ErrMany)
				}
			}
		}
	}
	all := [][]byte{long[0], long[0], long[0], long[0], long[0], long[0], long[0], long[0], long[0]}
	is(t, "too many, and all too long", all, api.ErrMany)
}
