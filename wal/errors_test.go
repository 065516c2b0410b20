package wal

import (
	"bytes"
	"math"
	"slices"
	"testing"

	"inquest/api"
)

// beyond are numbers that a page may not have: some look like one that may be in their lowest bytes.
var beyond = []int{-1, -2, -5, -256, -1 << 23, -1<<24 + 5, -1 << 24, -1<<32 + 5, -1 << 62, math.MinInt, math.MinInt + 5, 1 << 24, 1<<24 + 1, 1<<24 + 5, 1<<25 - 1, 1<<31 - 1, 1 << 31, 1<<32 - 1, 1 << 32, 1<<32 + 5, 1<<40 + 5, 1<<56 + 5, 1 << 62, math.MaxInt}

// unpaged are bytes that aren't a page.
var unpaged = [][]byte{nil, {}, {1}, make([]byte, 4), alike(1)[:508], alike(1)[:510], alike(1)[:511], make([]byte, 511), make([]byte, 513), append(steps(), 0), make([]byte, 516), make([]byte, 1024), make([]byte, 65536), make([]byte, 65536+512)}

// P16.1: ErrArg: a number that may not be, at every place among others, where it would be in order, too. Those beside it may.
func TestPutErrArgNumber(t *testing.T) {
	for _, no := range beyond {
		for n := range 4 {
			for at := range n + 1 {
				l := row(n, 100, 100)
				putsNot(t, "a number that may not be", slices.Insert(l, at, api.Write{No: no, B: steps()})...)
			}
		}
		if no < 0 {
			putsNot(t, "rising from it on", under(no, no+1, 7)...)
		} else {
			putsNot(t, "rising up to it", under(7, 1<<24-1, no)...)
			putsNot(t, "and two that rise behind it", under(7, no, no+1, no+2)...)
		}
	}
	putsNot(t, "below 0", under(-2, -1)...)
	asModel(t, under(0, 1<<24-1)...)
}

// P16.1: ErrArg: bytes that aren't 512, at every place among others.
func TestPutErrArgBytes(t *testing.T) {
	for _, b := range unpaged {
		for n := range 4 {
			for at := range n + 1 {
				l := row(n+1, 0, 1000)
				l[at].B = b
				putsNot(t, "bytes that aren't a page", l...)
				l[at].B = steps()
				asModel(t, l...)
			}
		}
	}
	for n := range 1100 {
		one := api.Write{No: 7, B: make([]byte, n)}
		if n == 512 {
			asModel(t, one)
		} else {
			putsNot(t, "bytes that aren't a page", one)
		}
	}
	putsNot(t, "too many and too few", api.Write{No: 1, B: make([]byte, 513)}, api.Write{No: 2, B: make([]byte, 511)})
	putsNot(t, "too few and too many", api.Write{No: 1}, api.Write{No: 2, B: make([]byte, 1024)})
}

// P16.1: ErrArg: numbers that fall, at every place, and in all orders of four but the one that rises.
func TestPutErrArgOrder(t *testing.T) {
	for i, no := range edges {
		for _, other := range edges[i+1:] {
			putsNot(t, "falling", under(other, no)...)
		}
	}
	for at := range 9 {
		l := row(10, 0, 7)
		l[at], l[at+1] = l[at+1], l[at]
		putsNot(t, "two exchanged", l...)
	}
	for _, a := range []int{0, 1, 2, 3} {
		for _, b := range []int{0, 1, 2, 3} {
			for _, c := range []int{0, 1, 2, 3} {
				for _, d := range []int{0, 1, 2, 3} {
					l := under(a*300, b*300, c*300, d*300)
					if a < b && b < c && c < d {
						asModel(t, l...)
					} else {
						putsNot(t, "another order, or one twice", l...)
					}
				}
			}
		}
	}
	putsNot(t, "all of them falling", row(4096, 4095, -1)...)
}

// P16.1: ErrArg: a number that is there twice, beside one another or not, with the same bytes or others.
func TestPutErrArgTwice(t *testing.T) {
	for _, no := range edges {
		one := api.Write{No: no, B: steps()}
		putsNot(t, "twice, the same bytes", one, one)
		putsNot(t, "twice, other bytes", one, api.Write{No: no, B: alike(1)})
		putsNot(t, "three times", one, one, one)
		putsNot(t, "twice, another one between", under(no, 500, no)...)
	}
	for at := range 10 {
		l := row(10, 0, 7)
		putsNot(t, "twice", slices.Insert(l, at, l[at])...)
	}
	l := row(4096, 0, 1)
	l[4095].No = 4094
	putsNot(t, "the last one twice", l...)
	l[4095].No = 0
	putsNot(t, "the first one at the end again", l...)
}

// P16.1: ErrArg: more than 4096 pages, and just so many may be.
func TestPutErrArgMany(t *testing.T) {
	for _, n := range []int{4097, 4098, 8192, 65536, 65537} {
		putsNot(t, "too many", row(n, 0, 1)...)
		putsNot(t, "too many, at the end", row(n, 1<<24-n, 1)...)
	}
	asModel(t, row(4096, 1, 1)...)
}

// P16.1: ErrArg, too, if several are wrong at once.
func TestPutManyErrors(t *testing.T) {
	putsNot(t, "a number, and bytes", api.Write{No: -1})
	putsNot(t, "a number, and bytes", api.Write{No: 1 << 24, B: make([]byte, 513)})
	putsNot(t, "in one a number, in the other bytes", api.Write{No: -1, B: steps()}, api.Write{No: 4})
	putsNot(t, "bytes, and twice", api.Write{No: 4}, api.Write{No: 4})
	putsNot(t, "bytes, and falling", api.Write{No: 4, B: steps()}, api.Write{No: 3})
	putsNot(t, "a number twice that may not be", under(1<<24, 1<<24)...)
	putsNot(t, "numbers that fall, and may not be", under(3, -1)...)
	putsNot(t, "too many, and falling", row(4097, 1<<24-1, -1)...)
	putsNot(t, "too many, and twice", row(4097, 3, 0)...)
	putsNot(t, "too many, and beyond", row(4097, 1<<24-4096, 1)...)
	putsNot(t, "too many, and no bytes", make([]api.Write, 4097)...)
	putsNot(t, "no bytes, and twice", make([]api.Write, 4096)...)
}

// P16.1: ErrEnd: fewer than four bytes, whatever they are, and whatever stands behind them.
func TestGetFewerThanFour(t *testing.T) {
	getsNot(t, "nil", nil, api.ErrEnd)
	getsNot(t, "nothing", []byte{}, api.ErrEnd)
	for v := range 256 {
		getsNot(t, "one byte", []byte{byte(v)}, api.ErrEnd)
		getsNot(t, "two bytes", []byte{0x69, byte(v)}, api.ErrEnd)
		getsNot(t, "two bytes", []byte{byte(v), 0x71}, api.ErrEnd)
		getsNot(t, "three bytes", []byte{0x69, 0x71, byte(v)}, api.ErrEnd)
		getsNot(t, "three bytes", []byte{0x69, byte(v), 0x6a}, api.ErrEnd)
		getsNot(t, "three bytes", []byte{byte(v), 0x71, 0x6a}, api.ErrEnd)
	}
	whole := stands(under(3))
	for n := range 4 {
		getsNot(t, "the rest behind it", whole[:n], api.ErrEnd)
		getsNot(t, "the end of it", whole[len(whole)-n:], api.ErrEnd)
	}
}

// P16.1: ErrForm: any other byte among the first four, the sum made anew or not.
func TestGetErrFormMark(t *testing.T) {
	for _, l := range [][]api.Write{nil, under(3), under(3, 9)} {
		b := stands(l)
		for at := range 4 {
			for v := range 256 {
				if v == int(stands(l)[at]) {
					continue
				}
				b[at] = byte(v)
				getsNot(t, "another mark", b, api.ErrForm)
				getsNot(t, "another mark, the sum made anew", closed(b[:len(b)-4]), api.ErrForm)
			}
			b[at] = stands(l)[at]
		}
		gets(t, "as it was", b, l...)
	}
	for _, mark := range []string{"1jqi", "IQJ1", "iqj2", "jqi1", "qij1", "iqji", "\x00iqj1", "iqj", "PK\x03\x04", "\x00\x00\x00\x00", "\xff\xff\xff\xff"} {
		getsNot(t, "another mark", closed([]byte(mark+"\x00\x00\x00\x00")), api.ErrForm)
	}
}

// tooMany are more pages than a batch may have: some look like fewer in their lowest bytes.
var tooMany = []int{4097, 4098, 4099, 5000, 8191, 8192, 65535, 65536, 65537, 1<<16 + 2, 1 << 20, 1<<24 - 1, 1 << 24, 1<<24 + 1, 1<<24 + 2, 1 << 28, 1<<31 - 1, 1 << 31, 1<<31 + 1, 1<<31 + 2, 1<<32 - 1, 1<<32 - 4096, 1<<32 - 2}

// P16.1: ErrForm: more than 4096 pages are told, be they there or not.
func TestGetErrFormMany(t *testing.T) {
	for _, n := range tooMany {
		for _, l := range [][]api.Write{nil, under(3), under(3, 9)} {
			getsNot(t, "too many told", open(n, l), api.ErrForm)
			getsNot(t, "too many told, under a sum", closed(open(n, l)), api.ErrForm)
			getsNot(t, "too many told, and much behind", append(closed(open(n, l)), make([]byte, 3000)...), api.ErrForm)
		}
	}
	getsNot(t, "one too many, all there", stands(row(4097, 0, 1)), api.ErrForm)
	getsNot(t, "all ones", append([]byte("iqj1"), bytes.Repeat([]byte{255}, 600)...), api.ErrForm)
	getsNot(t, "the highest byte first", closed([]byte("iqj1\x00\x00\x00\x01"+string(make([]byte, 516)))), api.ErrForm)
}

// P16.1, P16.2: ErrEnd: each beginning of a batch, whatever stands behind it in memory.
func TestGetErrEnd(t *testing.T) {
	for _, l := range [][]api.Write{nil, under(0), under(1<<24 - 1), under(3, 9), under(edges...)} {
		b := puts(t, l...)
		for n := range b {
			getsNot(t, "a beginning", b[:n], api.ErrEnd)
			getsNot(t, "a beginning, nothing behind", slices.Clip(b[:n]), api.ErrEnd)
		}
		gets(t, "all of it", b, l...)
	}
	for _, many := range []int{256, 4095, 4096} {
		b := puts(t, row(many, 0, 1)...)
		for n := 0; n < len(b); n += 1009 {
			getsNot(t, "a beginning", b[:n], api.ErrEnd)
		}
		for n := range 600 {
			getsNot(t, "a beginning", b[:n], api.ErrEnd)
			getsNot(t, "a beginning", b[:len(b)-1-n], api.ErrEnd)
		}
	}
}

// P16.1: ErrEnd, too, if more pages are told than are there, and the sum is right of those.
func TestGetErrEndOfFewer(t *testing.T) {
	for n := range 5 {
		for more := n + 1; more < 40; more++ {
			getsNot(t, "fewer than told", closed(open(more, row(n, 0, 1))), api.ErrEnd)
		}
		getsNot(t, "fewer than told", closed(open(4096, row(n, 0, 1))), api.ErrEnd)
	}
	getsNot(t, "one fewer than told", closed(open(4096, row(4095, 0, 1))), api.ErrEnd)
	getsNot(t, "the head alone", []byte("iqj1\x00\x00\x00\x00"), api.ErrEnd)
	getsNot(t, "the head alone", []byte("iqj1\x00\x10\x00\x00"), api.ErrEnd)
}

// P16.1: ErrSum: another byte anywhere behind the head, or another sum altogether.
func TestGetErrSum(t *testing.T) {
	for _, l := range [][]api.Write{nil, under(3), under(3, 9)} {
		b := stands(l)
		for at := 8; at < len(b); at++ {
			for _, v := range []byte{1, 16, 128, 255} {
				b[at] ^= v
				getsNot(t, "another byte", b, api.ErrSum)
				getsNot(t, "another byte, and bytes behind", append(bytes.Clone(b), stands(l)...), api.ErrSum)
				b[at] ^= v
			}
		}
		gets(t, "as it was", b, l...)
		end := len(b) - 4
		for why, sum := range map[string][]byte{
			"zeros":                       make([]byte, 4),
			"ones":                        {255, 255, 255, 255},
			"turned over":                 four(int(^summed(b[:end]))),
			"the highest byte first":      {b[end+3], b[end+2], b[end+1], b[end]},
			"of all but the first four":   four(int(summed(b[4:end]))),
			"of all but the head":         four(int(summed(b[8:end]))),
			"of all but the last byte":    four(int(summed(b[:end-1]))),
			"of all, and zeros as a sum":  four(int(summed(append(bytes.Clone(b[:end]), 0, 0, 0, 0)))),
			"of the sum, too":             four(int(summed(b))),
			"of the head alone, from one": four(int(summed(b[1:8]))),
		} {
			getsNot(t, "a sum of "+why, append(bytes.Clone(b[:end]), sum...), api.ErrSum)
		}
	}
	big := stands(row(4096, 0, 1))
	for _, at := range []int{8, 9, 11, 12, 1000, 1 << 20, len(big) - 5, len(big) - 4, len(big) - 1} {
		big[at] ^= 32
		getsNot(t, "another byte among many", big, api.ErrSum)
		big[at] ^= 32
	}
}

// P16.1: ErrSum, too, if fewer pages are told than are there: the sum is looked for behind as many as are told.
func TestGetErrSumOfMore(t *testing.T) {
	for n := 1; n < 5; n++ {
		for fewer := range n {
			getsNot(t, "more than told", closed(open(fewer, row(n, 0, 1))), api.ErrSum)
		}
	}
}

// P16.1: ErrForm: numbers that aren't as told, under a sum that is right, whatever is behind.
func TestGetErrFormNumbers(t *testing.T) {
	wrong := [][]api.Write{under(1 << 24), under(1<<24 + 1), under(1<<25 - 1), under(1 << 31), under(1<<31 + 5), under(1<<32 - 1), under(5, 5), under(0, 0), under(1<<24-1, 1<<24-1), under(9, 3), under(1, 0), under(1<<24-1, 0), under(256, 1), under(3, 9, 9), under(3, 3, 9), under(3, 9, 8), under(9, 3, 10), under(3, 10, 3)}
	for at := range 5 {
		for _, no := range []int{1 << 24, 1<<24 + 5, 1<<31 + 5, 1<<32 - 1} {
			wrong = append(wrong, slices.Insert(row(4, 0, 9), at, api.Write{No: no, B: steps()}))
		}
	}
	for at := range 9 {
		l := row(10, 0, 7)
		l[at].No, l[at+1].No = l[at+1].No, l[at].No
		wrong = append(wrong, l, slices.Insert(row(9, 0, 7), at, row(9, 0, 7)[at]))
	}
	for _, l := range wrong {
		getsNot(t, "numbers that aren't as told", stands(l), api.ErrForm)
		getsNot(t, "numbers that aren't as told, and bytes behind", append(stands(l), 1, 2, 3), api.ErrForm)
	}
	last := row(4096, 0, 1)
	last[4095].No = 4094
	getsNot(t, "the last one twice", stands(last), api.ErrForm)
	last[4095].No = 1 << 24
	getsNot(t, "the last one beyond", stands(last), api.ErrForm)
}

// P16.1, R2: two errors of Get at once, and more, in the chapter's order.
func TestGetManyErrors(t *testing.T) {
	marked := func(b []byte) []byte { return append([]byte("iqj2"), b[4:]...) }
	spoilt := func(b []byte) []byte { return append(bytes.Clone(b[:len(b)-1]), b[len(b)-1]^1) }
	right, twice, many := stands(under(3, 9)), stands(under(3, 3)), closed(open(4097, under(3, 9)))
	for _, c := range []struct {
		why  string
		b    []byte
		want api.Errno
	}{
		{"the mark, and how many", marked(many), api.ErrForm},
		{"the mark, and bytes missing", marked(right)[:1043], api.ErrForm},
		{"the mark, and how many is missing", []byte("iqj2\x00\x00\x00"), api.ErrForm},
		{"the mark alone", []byte("iqj2"), api.ErrForm},
		{"the mark, and the sum", marked(right), api.ErrForm},
		{"the mark, and the numbers", closed(marked(twice)[:1040]), api.ErrForm},
		{"the mark, how many, bytes missing", marked(many)[:8], api.ErrForm},
		{"the mark, bytes missing, the numbers", marked(twice)[:1043], api.ErrForm},
		{"the mark, but fewer than four", []byte("iqk"), api.ErrEnd},
		{"how many, and bytes missing", many[:8], api.ErrForm},
		{"how many, and bytes missing", many[:11], api.ErrForm},
		{"how many, and the sum", spoilt(stands(row(4097, 0, 1))), api.ErrForm},
		{"how many, and the numbers", stands(row(4097, 5, 0)), api.ErrForm},
		{"how many, and bytes missing, and the numbers", closed(open(5000, under(3, 3))), api.ErrForm},
		{"how many isn't there yet", many[:7], api.ErrEnd},
		{"bytes missing, and the sum", spoilt(right)[:1042], api.ErrEnd},
		{"bytes missing, and the sum", append(right[:500:500], make([]byte, 543)...), api.ErrEnd},
		{"bytes missing, and the numbers", twice[:1043], api.ErrEnd},
		{"bytes missing, and the numbers", closed(open(3, under(3, 3))), api.ErrEnd},
		{"bytes missing, the sum, the numbers", spoilt(twice[:1043]), api.ErrEnd},
		{"the sum, and the numbers", spoilt(twice), api.ErrSum},
		{"the sum, and the numbers", spoilt(stands(under(9, 3))), api.ErrSum},
		{"the sum, and the numbers", spoilt(stands(under(1 << 24))), api.ErrSum},
		{"the sum alone", spoilt(right), api.ErrSum},
		{"the numbers alone", twice, api.ErrForm},
	} {
		getsNot(t, c.why, c.b, c.want)
	}
	gets(t, "none", right, under(3, 9)...)
}
