package wal

import (
	"bytes"
	"testing"

	"inquest/api"
)

// summed is the sum of these as chapter 2 tells it, bit by bit.
func summed(b []byte) uint32 {
	n := uint32(0xffffffff)
	for _, x := range b {
		n ^= uint32(x)
		for range 8 {
			goes := n & 1
			n >>= 1
			if goes == 1 {
				n ^= 0xedb88320
			}
		}
	}
	return n ^ 0xffffffff
}

// four are the four bytes of a number, the lowest first.
func four(n int) []byte {
	return []byte{byte(n), byte(n >> 8), byte(n >> 16), byte(n >> 24)}
}

// numberOf is the number that four bytes are, the lowest first.
func numberOf(b []byte) int {
	return int(b[0]) + 256*int(b[1]) + 65536*int(b[2]) + 16777216*int(b[3])
}

// closed is b with its sum behind it.
func closed(b []byte) []byte { return append(bytes.Clone(b), four(int(summed(b)))...) }

// open is what stands of pages ahead of their sum, where so many are told, whatever they are.
func open(many int, l []api.Write) []byte {
	b := append([]byte{0x69, 0x71, 0x6a, 0x31}, four(many)...)
	for _, w := range l {
		b = append(b, four(w.No)...)
		b = append(b, w.B...)
	}
	return b
}

// stands is how pages stand, by the chapter's words, whether they may or not.
func stands(l []api.Write) []byte { return closed(open(len(l), l)) }

// rising tells whether each number is above the one ahead, and all are from 0 to 2^24 - 1.
func rising(l []api.Write) bool {
	for i, w := range l {
		if w.No < 0 || w.No > 16777215 {
			return false
		}
		for _, ahead := range l[max(0, i-1):i] {
			if ahead.No >= w.No {
				return false
			}
		}
	}
	return true
}

// isBatch tells whether these are a batch by the chapter's words.
func isBatch(l []api.Write) bool {
	for _, w := range l {
		if len(w.B) != 512 {
			return false
		}
	}
	return len(l) <= 4096 && rising(l)
}

// read is what Get answers, by the chapter's words, one behind the other.
func read(b []byte) ([]api.Write, api.Errno) {
	if len(b) < 4 {
		return nil, api.ErrEnd
	}
	if !bytes.HasPrefix(b, []byte{0x69, 0x71, 0x6a, 0x31}) {
		return nil, api.ErrForm
	}
	if len(b) < 8 {
		return nil, api.ErrEnd
	}
	many := numberOf(b[4:])
	if many > 4096 {
		return nil, api.ErrForm
	}
	long := 8 + 516*many + 4
	if len(b) < long {
		return nil, api.ErrEnd
	}
	if !bytes.Equal(closed(b[:long-4]), b[:long]) {
		return nil, api.ErrSum
	}
	l := make([]api.Write, many)
	for i := range l {
		l[i] = api.Write{No: numberOf(b[8+516*i:]), B: bytes.Clone(b[12+516*i:][:512])}
	}
	if !rising(l) {
		return nil, api.ErrForm
	}
	return l, api.OK
}

// same tells whether these are the same pages.
func same(l, m []api.Write) bool {
	if len(l) != len(m) {
		return false
	}
	for i := range l {
		if l[i].No != m[i].No || !bytes.Equal(l[i].B, m[i].B) {
			return false
		}
	}
	return true
}

// numbers are the pages' numbers, the first ones alone where there are many.
func numbers(l []api.Write) []int {
	var out []int
	for _, w := range l[:min(len(l), 8)] {
		out = append(out, w.No)
	}
	return out
}

// puts is what Put answers, which must be right.
func puts(t *testing.T, l ...api.Write) []byte {
	t.Helper()
	b, e := Put(l...)
	if e != api.OK || len(b) != 12+516*len(l) {
		t.Fatalf("Put of %d pages (%v): %d bytes, %v", len(l), numbers(l), len(b), e)
	}
	return b
}

// putsNot asks that these pages are no batch, and that nothing comes beside the error.
func putsNot(t *testing.T, why string, l ...api.Write) {
	t.Helper()
	if b, e := Put(l...); e != api.ErrArg || len(b) != 0 {
		t.Errorf("%s: Put of %d pages (%v): %d bytes, %v, wanted %v", why, len(l), numbers(l), len(b), e, api.ErrArg)
	}
}

// gets asks that b begins with the batch of these pages.
func gets(t *testing.T, why string, b []byte, want ...api.Write) {
	t.Helper()
	if l, e := Get(b); e != api.OK || !same(l, want) {
		t.Errorf("%s: Get of %d bytes: %d pages (%v), %v, wanted %d (%v)", why, len(b), len(l), numbers(l), e, len(want), numbers(want))
	}
}

// getsNot asks that b doesn't begin with a batch, but is told by this error, with nothing beside.
func getsNot(t *testing.T, why string, b []byte, want api.Errno) {
	t.Helper()
	if l, e := Get(b); e != want || len(l) != 0 {
		t.Errorf("%s: Get of %d bytes (%x): %d pages (%v), %v, wanted %v", why, len(b), b[:min(len(b), 16)], len(l), numbers(l), e, want)
	}
}

// asModel asks that these pages stand as the chapter tells, have the size that is told, and are got again.
func asModel(t *testing.T, l ...api.Write) {
	t.Helper()
	want := stands(l)
	if b := puts(t, l...); !bytes.Equal(b, want) {
		t.Errorf("Put of %d pages (%v): %x, wanted %x", len(l), numbers(l), b, want)
	}
	if n := Size(len(l)); n != len(want) {
		t.Errorf("Size(%d): %d, wanted %d", len(l), n, len(want))
	}
	gets(t, "as it stands", want, l...)
}
