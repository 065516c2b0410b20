package word

import (
	"bytes"
	"slices"
	"testing"

	"inquest/api"
)

// R1: no call panics, whatever it is given. R2: the error that the call's sentence names first, and nothing beside it.
func TestErrorsAtAllArguments(t *testing.T) {
	for _, b := range [][]byte{nil, {}, {1}, {1, 2, 3, 4, 5, 6, 7}, spare([]byte{1, 2, 3}, 20, 0xaa)} {
		for _, at := range extremes {
			for _, n := range extremes {
				wantGet, wantCut := wanted(b, at, width(n)), wanted(b, at, n)
				if got, e := Get(b, at, n); e != wantGet || e != api.OK && got != 0 {
					t.Errorf("Get of %d bytes at %d, %d: %d %d, wanted %d", len(b), at, n, got, e, wantGet)
				}
				if got, e := Cut(b, at, n); e != wantCut || e != api.OK && len(got) != 0 {
					t.Errorf("Cut of %d bytes at %d, %d: %x %d, wanted %d", len(b), at, n, got, e, wantCut)
				}
			}
		}
	}
}

// wanted is the error of n bytes from at on, by looking at each byte's place.
func wanted(b []byte, at, n int) api.Errno {
	if at < 0 || n < 0 {
		return api.ErrArg
	}
	if at > len(b) || n > len(b) || at+n > len(b) {
		return api.ErrEnd
	}
	return api.OK
}

// R3: nil and empty lists are one, handed in.
func TestNilIsEmpty(t *testing.T) {
	if !bytes.Equal(Put(nil, 2, 7), Put([]byte{}, 2, 7)) || !bytes.Equal(Put(nil, 2), Put([]byte{}, 2, []int{}...)) {
		t.Error("Put")
	}
	for _, at := range []int{-1, 0, 1} {
		n, e := Get(nil, at, 1)
		if m, f := Get([]byte{}, at, 1); m != n || f != e {
			t.Error("Get", at)
		}
		c, e := Cut(nil, at, 0)
		if d, f := Cut([]byte{}, at, 0); !bytes.Equal(c, d) || f != e {
			t.Error("Cut", at)
		}
	}
	if Fits(1) != Fits(1, []int{}...) {
		t.Error("Fits")
	}
}

// R4: what is handed in isn't changed, nor is its spare room.
func TestArgumentsStay(t *testing.T) {
	b := spare([]byte{1, 2, 3}, 64, 0xaa)
	before := slices.Clone(all(b))
	numbers := make([]int, 3, 9)
	numbers[0], numbers[1], numbers[2] = 300, -1, 1<<40
	numbersBefore := slices.Clone(numbers[:cap(numbers)])
	for w := 0; w < 9; w++ {
		Put(b, w, numbers...)
		Put(b[:0], w, numbers...)
		Fits(w, numbers...)
		Get(b, 0, w)
		Cut(b, 0, w)
	}
	if !bytes.Equal(all(b), before) {
		t.Errorf("bytes: %x", all(b))
	}
	if !slices.Equal(numbers[:cap(numbers)], numbersBefore) {
		t.Error("numbers:", numbers[:cap(numbers)])
	}
}

// R4: what is answered shares nothing with an argument, nor with an earlier answer, spare room included.
func TestAnswersAreNew(t *testing.T) {
	b := spare([]byte{1, 2, 3, 4}, 64, 0xaa)
	for name, call := range map[string]func() []byte{
		"Put":                 func() []byte { return Put(b, 2, 5) },
		"Put without numbers": func() []byte { return Put(b, 2) },
		"Put behind nothing":  func() []byte { return Put(b[:0], 2, 5) },
		"Put of nothing":      func() []byte { return Put(b[:0], 2) },
		"Cut":                 func() []byte { c, _ := Cut(b, 1, 2); return c },
		"Cut of all":          func() []byte { c, _ := Cut(b, 0, 4); return c },
		"Cut of nothing":      func() []byte { c, _ := Cut(b, 2, 0); return c },
		"Cut at the end":      func() []byte { c, _ := Cut(b, 4, 0); return c },
	} {
		before := slices.Clone(all(b))
		first, second := call(), call()
		kept := slices.Clone(second)
		fill(all(first), 0x55)
		if !bytes.Equal(all(b), before) {
			t.Errorf("%s: the answer shares memory with what was handed in", name)
		}
		if !bytes.Equal(second, kept) {
			t.Errorf("%s: two answers share memory", name)
		}
		fill(all(b), 0x66)
		if !bytes.Equal(second, kept) {
			t.Errorf("%s: what is handed in is kept", name)
		}
		copy(all(b), before)
	}
}

func fill(b []byte, x byte) {
	for i := range b {
		b[i] = x
	}
}

// R5: the answer hangs on the arguments alone: asked again, or of bytes with other spare room, it is the same.
func TestAnswersHangOnArguments(t *testing.T) {
	tight := slices.Clip([]byte{1, 2, 3})
	roomy := spare([]byte{1, 2, 3}, 64, 0xbb)
	for range 3 {
		if !bytes.Equal(Put(tight, 3, 7, -7), Put(roomy, 3, 7, -7)) {
			t.Error("Put")
		}
		for at := -1; at < 6; at++ {
			for n := -1; n < 6; n++ {
				x, e := Get(tight, at, n)
				if y, f := Get(roomy, at, n); x != y || e != f {
					t.Error("Get", at, n)
				}
				c, e := Cut(tight, at, n)
				if d, f := Cut(roomy, at, n); !bytes.Equal(c, d) || e != f {
					t.Error("Cut", at, n)
				}
			}
		}
	}
}
