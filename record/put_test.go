package record

import (
	"math"
	"strings"
	"testing"

	"inquest/api"
)

const (
	ff4  = "\xff\xff\xff\xff"
	o2   = "\x00\x00"
	o4   = "\x00\x00\x00\x00"
	o8   = "\x00\x00\x00\x00\x00\x00\x00\x00"
	leap = "\x00\x00\x5d\x58" // 2024-02-29
)

// heads are heads, and their bytes, written out: as a local one, as a central one, and what is behind the data.
var heads = []struct {
	h                      api.Head
	local, central, behind string
}{
	{api.Head{},
		"PK\x03\x04\x14\x00" + o2 + o2 + o4 + o4 + o4 + o4 + o2 + o2,
		"PK\x01\x02\x14\x00\x14\x00" + o2 + o2 + o4 + o4 + o4 + o4 + o2 + o2 + o2 + o2 + o2 + o4 + o4,
		""},
	{api.Head{Flags: 0x0102, Method: 0x0304, Dos: 0x05060708, Crc: 0x090a0b0c, Csize: 0x0d0e0f10, Size: 0x11121314, At: 0x15161718, Name: []byte("one.txt")},
		"PK\x03\x04\x14\x00\x02\x01\x04\x03\x08\x07\x06\x05\x0c\x0b\x0a\x09\x10\x0f\x0e\x0d\x14\x13\x12\x11\x07\x00\x00\x00one.txt",
		"PK\x01\x02\x14\x00\x14\x00\x02\x01\x04\x03\x08\x07\x06\x05\x0c\x0b\x0a\x09\x10\x0f\x0e\x0d\x14\x13\x12\x11\x07\x00\x00\x00" + o2 + o2 + o2 + o4 + "\x18\x17\x16\x15one.txt",
		""},
	{api.Head{Flags: api.Described | api.Utf8, Method: 8, Dos: 1482489856, Crc: 0x04030201, Csize: 5, Size: 6, At: 7, Name: []byte("\xd0\xb6")},
		"PK\x03\x04\x14\x00\x08\x08\x08\x00" + leap + o4 + o4 + o4 + "\x02\x00\x00\x00\xd0\xb6",
		"PK\x01\x02\x14\x00\x14\x00\x08\x08\x08\x00" + leap + "\x01\x02\x03\x04\x05\x00\x00\x00\x06\x00\x00\x00\x02\x00\x00\x00" + o2 + o2 + o2 + o4 + "\x07\x00\x00\x00\xd0\xb6",
		"PK\x07\x08\x01\x02\x03\x04\x05\x00\x00\x00\x06\x00\x00\x00"},
	{api.Head{Method: 8, Dos: 1482489856, Crc: 0x04030201, Csize: 0x060504030201, Size: 6, At: 0xffeeddccbbaa, Name: []byte("ab"), Wide: true},
		"PK\x03\x04\x2d\x00\x00\x00\x08\x00" + leap + "\x01\x02\x03\x04" + ff4 + ff4 + "\x02\x00\x14\x00ab\x01\x00\x10\x00\x06\x00\x00\x00\x00\x00\x00\x00\x01\x02\x03\x04\x05\x06\x00\x00",
		"PK\x01\x02\x2d\x00\x2d\x00\x00\x00\x08\x00" + leap + "\x01\x02\x03\x04" + ff4 + ff4 + "\x02\x00\x1c\x00" + o2 + o2 + o2 + o4 + ff4 + "ab\x01\x00\x18\x00\x06\x00\x00\x00\x00\x00\x00\x00\x01\x02\x03\x04\x05\x06\x00\x00\xaa\xbb\xcc\xdd\xee\xff\x00\x00",
		""},
	{api.Head{Flags: 0xffff, Dos: 1482489856, Crc: 0x04030201, Csize: 5, Size: 0x060504030201, At: 7, Wide: true},
		"PK\x03\x04\x2d\x00\xff\xff\x00\x00" + leap + o4 + ff4 + ff4 + "\x00\x00\x14\x00\x01\x00\x10\x00" + o8 + o8,
		"PK\x01\x02\x2d\x00\x2d\x00\xff\xff\x00\x00" + leap + "\x01\x02\x03\x04" + ff4 + ff4 + "\x00\x00\x1c\x00" + o2 + o2 + o2 + o4 + ff4 + "\x01\x00\x18\x00\x01\x02\x03\x04\x05\x06\x00\x00\x05\x00\x00\x00\x00\x00\x00\x00\x07\x00\x00\x00\x00\x00\x00\x00",
		"PK\x07\x08\x01\x02\x03\x04\x05\x00\x00\x00\x00\x00\x00\x00\x01\x02\x03\x04\x05\x06\x00\x00"},
	{api.Head{Flags: 0xffff ^ 8, Method: 0xffff, Dos: 0xffffffff, Crc: 0xffffffff, Csize: 0xfffffffe, Size: 0xfffffffd, At: 0xfffffffe, Name: []byte{0, 0xff}},
		"PK\x03\x04\x14\x00\xf7\xff\xff\xff" + ff4 + ff4 + "\xfe\xff\xff\xff\xfd\xff\xff\xff\x02\x00\x00\x00\x00\xff",
		"PK\x01\x02\x14\x00\x14\x00\xf7\xff\xff\xff" + ff4 + ff4 + "\xfe\xff\xff\xff\xfd\xff\xff\xff\x02\x00\x00\x00" + o2 + o2 + o2 + o4 + "\xfe\xff\xff\xff\x00\xff",
		""},
}

// P10.1: heads as their bytes, and what is behind their data.
func TestHeadsBytes(t *testing.T) {
	for i, c := range heads {
		if b, e := Local(c.h); string(b) != c.local || e != api.OK {
			t.Errorf("%d: Local %x, %v, wanted %x", i, b, e, c.local)
		}
		if b, e := Central(c.h); string(b) != c.central || e != api.OK {
			t.Errorf("%d: Central %x, %v, wanted %x", i, b, e, c.central)
		}
		if b := Behind(c.h); string(b) != c.behind {
			t.Errorf("%d: Behind %x, wanted %x", i, b, c.behind)
		}
		if localOf(c.h) != c.local || centralOf(c.h) != c.central {
			t.Errorf("%d: the model tells %x, %x", i, localOf(c.h), centralOf(c.h))
		}
	}
}

// asPut holds the bytes of a head that may be against the model, gets them again, and holds what is got against the head (P10.1, P10.3).
func asPut(t *testing.T, what string, h api.Head) {
	t.Helper()
	local, e := Local(h)
	if want := localOf(h); e != api.OK || string(local) != want {
		t.Errorf("%s: Local(%s): %.100x, %v, wanted %.100x", what, tell(h), local, e, want)
		return
	}
	central, e := Central(h)
	if want := centralOf(h); e != api.OK || string(central) != want {
		t.Errorf("%s: Central(%s): %.100x, %v, wanted %.100x", what, tell(h), central, e, want)
		return
	}
	isGot(t, what, GetCentral, string(central), 0, h, len(central))
	isGot(t, what, GetCentral, "ahead"+string(central)+"behind", 5, h, 5+len(central))
	if h.Flags&api.Described != 0 {
		h.Crc, h.Csize, h.Size = 0, 0, 0
	}
	h.At = 0
	isGot(t, what, GetLocal, string(local), 0, h, len(local))
	h.At = 5
	isGot(t, what, GetLocal, "ahead"+string(local)+"behind", 5, h, 5+len(local))
}

// asRefused fails, unless neither of both heads may be put.
func asRefused(t *testing.T, what string, h api.Head) {
	t.Helper()
	if b, e := Local(h); len(b) != 0 || e != api.ErrArg {
		t.Errorf("%s: Local(%s): %.100x, %v", what, tell(h), b, e)
	}
	if b, e := Central(h); len(b) != 0 || e != api.ErrArg {
		t.Errorf("%s: Central(%s): %.100x, %v", what, tell(h), b, e)
	}
}

// P10.1: each number of a head at its bounds, and beyond, with flags and without, wide and plain; At of a local one, too, in which it doesn't stand, and sizes that stand behind the data.
func TestHeadsBounds(t *testing.T) {
	for _, c := range []struct {
		what       string
		most, wide int
		set        func(h *api.Head, n int)
	}{
		{"flags", 1<<16 - 1, 1<<16 - 1, func(h *api.Head, n int) { h.Flags = n }},
		{"method", 1<<16 - 1, 1<<16 - 1, func(h *api.Head, n int) { h.Method = n }},
		{"moment", 1<<32 - 1, 1<<32 - 1, func(h *api.Head, n int) { h.Dos = n }},
		{"packed size", 1<<32 - 2, 1<<48 - 1, func(h *api.Head, n int) { h.Csize = n }},
		{"size", 1<<32 - 2, 1<<48 - 1, func(h *api.Head, n int) { h.Size = n }},
		{"at", 1<<32 - 2, 1<<48 - 1, func(h *api.Head, n int) { h.At = n }},
	} {
		for _, h := range []api.Head{{}, {Flags: api.Described}, {Wide: true}, {Flags: api.Described, Wide: true}, heads[1].h, heads[2].h, heads[3].h, heads[4].h} {
			most := c.most
			if h.Wide {
				most = c.wide
			}
			for _, n := range append([]int{most - 1, most, most + 1, most + 2, 2*most + 1, 2*most + 2}, extremes...) {
				c.set(&h, n)
				if n >= 0 && n <= most {
					asPut(t, c.what, h)
				} else {
					asRefused(t, c.what, h)
				}
			}
		}
	}
}

// P10.1: a name's length stands in 2 bytes.
func TestLengthsOfNames(t *testing.T) {
	for _, h := range []api.Head{heads[1].h, heads[2].h, heads[3].h, heads[4].h} {
		for _, n := range []int{0, 1, 2, 40, 41, 255, 256, 65514, 65515, 65534, 65535} {
			asPut(t, "name", named(h, strings.Repeat("n", n)))
		}
		for _, n := range []int{65536, 65537, 131071, 131072, 1 << 20} {
			asRefused(t, "name", named(h, strings.Repeat("n", n)))
		}
	}
}

// P10.1: one number that may not be is enough, whatever the others are.
func TestAllWrongAtOnce(t *testing.T) {
	for _, wide := range []bool{false, true} {
		asRefused(t, "all", api.Head{Flags: -1, Method: -1, Dos: -1, Csize: -1, Size: -1, At: -1, Wide: wide})
		asRefused(t, "all", api.Head{Flags: 1 << 16, Method: 1 << 16, Dos: 1 << 32, Csize: 1 << 48, Size: 1 << 48, At: 1 << 48, Wide: wide})
		asRefused(t, "first", api.Head{Flags: math.MinInt, Wide: wide})
		asRefused(t, "last", api.Head{At: math.MinInt, Wide: wide})
	}
}

// P10.1: nothing stands behind data without the flag, and what does hangs on the sum, the sizes and Wide alone.
func TestBehind(t *testing.T) {
	for flags := range 1 << 16 {
		for _, wide := range []bool{false, true} {
			h := api.Head{Flags: flags, Method: 1, Dos: 2, Crc: 0xfffefdfc, Csize: 1<<32 - 2, Size: 3, At: 4, Name: []byte("x"), Wide: wide}
			want := ""
			switch {
			case flags&8 != 0 && wide:
				want = join("PK\x07\x08", n4(0xfffefdfc), n8(1<<32-2), n8(3))
			case flags&8 != 0:
				want = join("PK\x07\x08", n4(0xfffefdfc), n4(1<<32-2), n4(3))
			}
			if b := Behind(h); string(b) != want {
				t.Fatalf("flags %x, wide %v: %x, wanted %x", flags, wide, b, want)
			}
		}
	}
	for _, n := range []int{0, 1, 1<<32 - 1, 1 << 32, 0x060504030201, 1<<48 - 1} {
		for _, m := range []int{0, 5, 1<<48 - 2} {
			b := Behind(api.Head{Flags: api.Described, Csize: n, Size: m, Wide: true})
			if want := join("PK\x07\x08", n4(0), n8(n), n8(m)); string(b) != want {
				t.Errorf("%x, wanted %x", b, want)
			}
		}
	}
}

// P10.1: tails as their bytes, written out.
func TestTailsBytes(t *testing.T) {
	for i, c := range []struct {
		x    api.Tail
		at   int
		want string
	}{
		{api.Tail{}, 0, "PK\x05\x06" + o2 + o2 + o2 + o2 + o4 + o4 + o2},
		{api.Tail{Many: 0x0102, Long: 0x03040506, At: 0x0708090a}, 99, "PK\x05\x06" + o2 + o2 + "\x02\x01\x02\x01\x06\x05\x04\x03\x0a\x09\x08\x07" + o2},
		{api.Tail{Many: 65534, Long: 1<<32 - 2, At: 1<<32 - 2}, 1<<48 - 1, "PK\x05\x06" + o2 + o2 + "\xfe\xff\xfe\xff\xfe\xff\xff\xff\xfe\xff\xff\xff" + o2},
		{api.Tail{Wide: true}, 0,
			"PK\x06\x06\x2c\x00\x00\x00\x00\x00\x00\x00\x2d\x00\x2d\x00" + o4 + o4 + o8 + o8 + o8 + o8 +
				"PK\x06\x07" + o4 + o8 + "\x01\x00\x00\x00" +
				"PK\x05\x06" + o2 + o2 + ff4 + ff4 + ff4 + o2},
		{api.Tail{Many: 0x010203040506, Long: 0x0708090a0b0c, At: 0x0d0e0f101112, Wide: true}, 0x131415161718,
			"PK\x06\x06\x2c\x00\x00\x00\x00\x00\x00\x00\x2d\x00\x2d\x00" + o4 + o4 +
				"\x06\x05\x04\x03\x02\x01\x00\x00\x06\x05\x04\x03\x02\x01\x00\x00\x0c\x0b\x0a\x09\x08\x07\x00\x00\x12\x11\x10\x0f\x0e\x0d\x00\x00" +
				"PK\x06\x07" + o4 + "\x18\x17\x16\x15\x14\x13\x00\x00\x01\x00\x00\x00" +
				"PK\x05\x06" + o2 + o2 + ff4 + ff4 + ff4 + o2},
	} {
		if b, e := End(c.x, c.at); string(b) != c.want || e != api.OK {
			t.Errorf("%d: %x, %v, wanted %x", i, b, e, c.want)
		}
		if endOf(c.x, c.at) != c.want {
			t.Errorf("%d: the model tells %x", i, endOf(c.x, c.at))
		}
	}
}

// The example: the end of nothing has 22 bytes.
func TestEndOfNothing(t *testing.T) {
	b, e := End(api.Tail{}, 0)
	if len(b) != 22 || e != api.OK {
		t.Errorf("%x, %v", b, e)
	}
	if x, e := Find(b); x != (api.Tail{}) || e != api.OK {
		t.Errorf("%v, %v", x, e)
	}
}

// P10.1: each number of a tail at its bounds, and beyond, wide and plain; and where the tail begins.
func TestTailsBounds(t *testing.T) {
	for _, c := range []struct {
		what       string
		most, wide int
		set        func(x *api.Tail, at *int, n int)
	}{
		{"many", 1<<16 - 2, 1<<48 - 1, func(x *api.Tail, at *int, n int) { x.Many = n }},
		{"long", 1<<32 - 2, 1<<48 - 1, func(x *api.Tail, at *int, n int) { x.Long = n }},
		{"at", 1<<32 - 2, 1<<48 - 1, func(x *api.Tail, at *int, n int) { x.At = n }},
		{"where", 1<<48 - 1, 1<<48 - 1, func(x *api.Tail, at *int, n int) { *at = n }},
	} {
		for _, x := range []api.Tail{{}, {Many: 3, Long: 4, At: 5}, {Wide: true}, {Many: 3, Long: 4, At: 5, Wide: true}} {
			at, most := 6, c.most
			if x.Wide {
				most = c.wide
			}
			for _, n := range append([]int{most - 1, most, most + 1, most + 2, 2*most + 1, 2*most + 2}, extremes...) {
				c.set(&x, &at, n)
				b, e := End(x, at)
				if n < 0 || n > most {
					if len(b) != 0 || e != api.ErrArg {
						t.Errorf("%s: End(%v, %d): %x, %v", c.what, x, at, b, e)
					}
				} else if want := endOf(x, at); string(b) != want || e != api.OK {
					t.Errorf("%s: End(%v, %d): %x, %v, wanted %x", c.what, x, at, b, e, want)
				}
			}
		}
	}
}
