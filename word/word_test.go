package word

import (
	"bytes"
	"math"
	"math/big"
	"slices"
	"testing"

	"inquest/api"
)

// spare is b with room behind it, filled with x, so that a write into it is seen.
func spare(b []byte, room int, x byte) []byte {
	whole := append(slices.Clone(b), bytes.Repeat([]byte{x}, room)...)
	return whole[:len(b)]
}

// all is b with its spare room.
func all(b []byte) []byte { return b[:cap(b)] }

var extremes = []int{math.MinInt, math.MinInt + 1, -1 << 56, -65536, -257, -256, -255, -9, -2, -1, 0, 1, 2, 3, 4, 5, 6, 7, 8, 9,
	255, 256, 257, 65535, 65536, 65537, 1<<32 - 1, 1 << 32, 1<<48 - 1, 1 << 48, 1<<56 - 1, 1 << 56, math.MaxInt - 1, math.MaxInt}

// width is w as the document holds it, told anew here.
func width(w int) int {
	if w < 1 {
		return 1
	}
	if w > 7 {
		return 7
	}
	return w
}

// lowest are the w lowest bytes of n modulo 2^64, worked out with numbers of any size.
func lowest(n, w int) []byte {
	v := big.NewInt(int64(n))
	v.Mod(v, new(big.Int).Lsh(big.NewInt(1), 64))
	var out []byte
	for range w {
		low := new(big.Int)
		v.DivMod(v, big.NewInt(256), low)
		out = append(out, byte(low.Int64()))
	}
	return out
}

// P1.1: numbers stand behind b, each in w bytes, the lowest first.
func TestPut(t *testing.T) {
	for i, c := range []struct {
		b       []byte
		w       int
		numbers []int
		want    string
	}{
		{nil, 2, []int{300}, "\x2c\x01"},
		{nil, 1, []int{0}, "\x00"},
		{nil, 1, []int{255, 1}, "\xff\x01"},
		{[]byte("ab"), 3, []int{1, 65536}, "ab\x01\x00\x00\x00\x00\x01"},
		{[]byte{9}, 4, []int{0x04030201}, "\x09\x01\x02\x03\x04"},
		{nil, 7, []int{0x07060504030201}, "\x01\x02\x03\x04\x05\x06\x07"},
		{[]byte("ab"), 3, nil, "ab"},
		{nil, 3, nil, ""},
		{[]byte{}, 5, []int{}, ""},
	} {
		if got := Put(c.b, c.w, c.numbers...); string(got) != c.want {
			t.Errorf("%d: %x, wanted %x", i, got, c.want)
		}
	}
}

// P1.1: of a number that doesn't fit the lowest bytes stand, and below 0 it goes round.
func TestPutGoesRound(t *testing.T) {
	for i, c := range []struct {
		w, n int
		want string
	}{
		{1, 256, "\x00"},
		{1, 511, "\xff"},
		{2, 65537, "\x01\x00"},
		{1, -1, "\xff"},
		{7, -1, "\xff\xff\xff\xff\xff\xff\xff"},
		{2, -2, "\xfe\xff"},
		{3, -256, "\x00\xff\xff"},
		{7, math.MinInt, "\x00\x00\x00\x00\x00\x00\x00"},
		{7, math.MaxInt, "\xff\xff\xff\xff\xff\xff\xff"},
		{7, 1 << 56, "\x00\x00\x00\x00\x00\x00\x00"},
	} {
		if got := Put(nil, c.w, c.n); string(got) != c.want {
			t.Errorf("%d: %x, wanted %x", i, got, c.want)
		}
	}
}

// P1.1: a width is held within 1 to 7, by Put and by Get.
func TestWidthIsHeld(t *testing.T) {
	b := []byte{1, 2, 3, 4, 5, 6, 7, 8, 9}
	for _, w := range extremes {
		if got := len(Put(nil, w, 5)); got != width(w) {
			t.Errorf("Put in %d bytes has %d", w, got)
		}
		want, _ := Get(b, 0, width(w))
		if n, e := Get(b, 0, w); n != want || e != api.OK {
			t.Errorf("Get of %d bytes: %d %d, wanted %d", w, n, e, want)
		}
	}
}

// P1.1: all extremes in all widths, against numbers of any size.
func TestPutByModel(t *testing.T) {
	for _, w := range extremes {
		want := []byte{7, 7}
		for _, n := range extremes {
			want = append(want, lowest(n, width(w))...)
		}
		if got := Put([]byte{7, 7}, w, extremes...); !bytes.Equal(got, want) {
			t.Errorf("w %d: %x, wanted %x", w, got, want)
		}
	}
}

// P1.1: the number in the bytes, and what is wrong.
func TestGet(t *testing.T) {
	b := []byte{1, 2, 3, 0xff, 0xff, 0xff, 0xff, 0xff, 0xff, 0xff}
	for i, c := range []struct {
		b     []byte
		at, w int
		n     int
		e     api.Errno
	}{
		{b, 0, 1, 1, api.OK},
		{b, 0, 2, 513, api.OK},
		{b, 1, 2, 770, api.OK},
		{b, 3, 7, 1<<56 - 1, api.OK},
		{b, 3, 100, 1<<56 - 1, api.OK},
		{b, 9, 1, 255, api.OK},
		{b, 9, -4, 255, api.OK},
		{b, 9, 2, 0, api.ErrEnd},
		{b, 4, 7, 0, api.ErrEnd},
		{b, 10, 1, 0, api.ErrEnd},
		{b, 10, 0, 0, api.ErrEnd},
		{b, 11, 1, 0, api.ErrEnd},
		{b, math.MaxInt, 7, 0, api.ErrEnd},
		{b, math.MaxInt, math.MaxInt, 0, api.ErrEnd},
		{nil, 0, 1, 0, api.ErrEnd},
		{b, -1, 1, 0, api.ErrArg},
		{b, math.MinInt, 1, 0, api.ErrArg},
		{nil, -1, 7, 0, api.ErrArg},
	} {
		if n, e := Get(c.b, c.at, c.w); n != c.n || e != c.e {
			t.Errorf("%d: %d %d, wanted %d %d", i, n, e, c.n, c.e)
		}
	}
}

// P1.1: what fits is got as it was put, wherever it stands.
func TestPutIsGot(t *testing.T) {
	for w := 1; w <= 7; w++ {
		top := 1<<(8*w) - 1
		numbers := []int{0, 1, 127, 128, 255, top, top - 1, top / 2, top/2 + 1, top / 3}
		b := Put([]byte("ahead"), w, numbers...)
		for i, n := range numbers {
			if got, e := Get(b, 5+i*w, w); got != n || e != api.OK {
				t.Errorf("w %d: %d %d, wanted %d", w, got, e, n)
			}
		}
	}
}

// P1.2: the bytes from at on, and what is wrong.
func TestCut(t *testing.T) {
	b := []byte("abcd")
	for i, c := range []struct {
		b     []byte
		at, n int
		want  string
		e     api.Errno
	}{
		{b, 0, 4, "abcd", api.OK},
		{b, 1, 2, "bc", api.OK},
		{b, 3, 1, "d", api.OK},
		{b, 2, 0, "", api.OK},
		{b, 4, 0, "", api.OK},
		{nil, 0, 0, "", api.OK},
		{b, 0, 5, "", api.ErrEnd},
		{b, 4, 1, "", api.ErrEnd},
		{b, 5, 0, "", api.ErrEnd},
		{b, 3, 2, "", api.ErrEnd},
		{nil, 0, 1, "", api.ErrEnd},
		{b, math.MaxInt, math.MaxInt, "", api.ErrEnd},
		{b, 1, math.MaxInt, "", api.ErrEnd},
		{b, math.MaxInt, 1, "", api.ErrEnd},
		{b, -1, 1, "", api.ErrArg},
		{b, 0, -1, "", api.ErrArg},
		{b, -1, -1, "", api.ErrArg},
		{b, math.MinInt, math.MinInt, "", api.ErrArg},
	} {
		if got, e := Cut(c.b, c.at, c.n); string(got) != c.want || e != c.e {
			t.Errorf("%d: %q %d, wanted %q %d", i, got, e, c.want, c.e)
		}
	}
}

// P1.2: all numbers must be from 0 to 256^w - 1.
func TestFits(t *testing.T) {
	for i, c := range []struct {
		w       int
		numbers []int
		want    bool
	}{
		{1, nil, true},
		{7, []int{}, true},
		{1, []int{0}, true},
		{1, []int{255}, true},
		{1, []int{256}, false},
		{1, []int{-1}, false},
		{3, []int{0, 1, 1<<24 - 1}, true},
		{3, []int{0, 1, 1 << 24}, false},
		{3, []int{1 << 24, 1, 0}, false},
		{3, []int{1, -1, 1}, false},
		{7, []int{1<<56 - 1}, true},
		{7, []int{1 << 56}, false},
		{7, []int{math.MinInt}, false},
		{7, []int{math.MaxInt}, false},
	} {
		if got := Fits(c.w, c.numbers...); got != c.want {
			t.Errorf("%d: %v", i, got)
		}
	}
}

// P1.2: every extreme in every width, with the bound told anew, and the width held within 1 to 7.
func TestFitsByModel(t *testing.T) {
	for _, w := range extremes {
		for _, n := range extremes {
			want := n >= 0 && n < 1<<(8*width(w))
			if Fits(w, n) != want || Fits(w, 0, n) != want || Fits(w, n, 0) != want {
				t.Errorf("Fits(%d, %d) isn't %v", w, n, want)
			}
		}
	}
}

// P1.1 and P1.2 belong together: what fits is just what Put and Get bring back.
func TestFitsIsWhatIsGot(t *testing.T) {
	for _, w := range extremes {
		for _, n := range extremes {
			got, e := Get(Put(nil, w, n), 0, w)
			if e != api.OK || (got == n) != Fits(w, n) {
				t.Errorf("w %d, n %d: got %d %d", w, n, got, e)
			}
		}
	}
}
