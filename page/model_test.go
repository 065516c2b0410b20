package page

import (
	"bytes"
	"testing"

	"inquest/api"
)

// summed is the sum of these as chapter 2 tells it, bit by bit.
func summed(b []byte) uint32 {
	n := uint32(0xffffffff)
	for _, x := range b {
		n ^= uint32(x)
		for range 8 {
			goes := n & 1
			n >>= 1
			if goes == 1 {
				n ^= 0xedb88320
			}
		}
	}
	return n ^ 0xffffffff
}

// four are the four bytes of a number, the lowest first.
func four(n uint32) []byte {
	return []byte{byte(n), byte(n >> 8), byte(n >> 16), byte(n >> 24)}
}

// stands is how the page of b stands under that number, by the chapter's words: its bytes, zeros, and the sum of the number and them.
func stands(no int, b []byte) []byte {
	page := append([]byte{}, b...)
	for len(page) < 508 {
		page = append(page, 0)
	}
	sum := summed(append(four(uint32(no)), page...))
	return append(page, four(sum)...)
}

// sealed is what Seal answers, which must be right.
func sealed(t *testing.T, no int, b []byte) []byte {
	t.Helper()
	p, e := Seal(no, b)
	if e != api.OK || len(p) != 512 {
		t.Fatalf("Seal(%d, %d bytes): %d bytes, %v", no, len(b), len(p), e)
	}
	return p
}

// asModel asks that the page of b stands as the chapter tells, and is opened again as its 508 bytes.
func asModel(t *testing.T, no int, b []byte) {
	t.Helper()
	want := stands(no, b)
	p := sealed(t, no, b)
	if !bytes.Equal(p, want) {
		t.Errorf("Seal(%d, %d bytes): %x, wanted %x", no, len(b), p, want)
	}
	opens(t, no, want, want[:508])
}

// opens asks that p is opened under that number as b.
func opens(t *testing.T, no int, p, b []byte) {
	t.Helper()
	if got, e := Open(no, p); e != api.OK || !bytes.Equal(got, b) {
		t.Errorf("Open(%d): %x, %v, wanted %x", no, got, e, b)
	}
}

// opensNot asks that p isn't opened under that number, but told by this error, with nothing beside.
func opensNot(t *testing.T, why string, no int, p []byte, want api.Errno) {
	t.Helper()
	if got, e := Open(no, p); e != want || len(got) != 0 {
		t.Errorf("%s: Open(%d, %d bytes): %x, %v, wanted %v", why, no, len(p), got, e, want)
	}
}

// sealsNot asks that b isn't sealed under that number, but told by this error, with nothing beside.
func sealsNot(t *testing.T, why string, no int, b []byte, want api.Errno) {
	t.Helper()
	if got, e := Seal(no, b); e != want || len(got) != 0 {
		t.Errorf("%s: Seal(%d, %d bytes): %x, %v, wanted %v", why, no, len(b), got, e, want)
	}
}
