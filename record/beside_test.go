package record

import (
	"strconv"
	"strings"
	"testing"

	"inquest/api"
)

// told is some head whose size, packed size and at are all ones where the bits of which are (4, 2 and 1), with so many numbers, from 0x0101010101 on, in the item 1; and the head that this is.
func told(which, many int, at bool) (r raw, want api.Head, enough bool) {
	r = some()
	for i, n := range []*uint64{&r.size, &r.csize, &r.at} {
		if which>>(2-i)&1 != 0 {
			*n = ones4
		}
	}
	var numbers []uint64
	for i := range many {
		numbers = append(numbers, uint64(i+1)*0x0101010101)
	}
	r.beside = item1(numbers...)
	want = r.want(at)
	places := []*int{&want.Size, &want.Csize}
	if at {
		places = append(places, &want.At)
	}
	next := 0
	for _, p := range places {
		if *p != ones4 {
			continue
		}
		if next == many {
			return r, api.Head{}, false
		}
		*p, want.Wide = (next+1)*0x0101010101, true
		next++
	}
	return r, want, true
}

// P10.2: numbers in the item 1 stand for those that are all ones alone, in their order: just as many as there are all ones, fewer, and more; with other items around, and with a comment behind.
func TestItem(t *testing.T) {
	for _, g := range getters {
		for which := range 8 {
			for many := range 6 {
				for i, around := range [][2]string{{"", ""}, {other(0, ""), ""}, {"", other(2, "xy")}, {other(0x5455, "12345"), other(0xffff, strings.Repeat("z", 300))},
					{other(0x0100, "12345678") + other(2, ""), other(3, "1")}, {"", item1(8, 9, 10)}, {"", other(4, "") + other(1, "xyz") + item1()}, {"", item1(1<<48, 1<<63)}} {
					what := g.what + " " + strconv.Itoa(which) + " " + strconv.Itoa(many) + " " + strconv.Itoa(i)
					r, want, enough := told(which, many, g.at)
					r.beside = around[0] + r.beside + around[1]
					r.comment = item1(1, 2, 3)
					b := g.bytes(r)
					if enough {
						isGot(t, what, g.get, b, 0, want, len(b))
					} else {
						isWrong(t, what, g.get, b, 0, api.ErrForm)
					}
				}
			}
		}
	}
}

// P10.2: where some number is all ones, and no item 1 tells it, it is none.
func TestNoItem(t *testing.T) {
	for _, g := range getters {
		for which := range 8 {
			for _, beside := range []string{"", other(0, strings.Repeat("\x07", 24)), other(2, strings.Repeat("\x07", 24)), other(0x0100, item1(1, 2, 3)), other(257, item1(1, 2, 3)), other(5, "") + other(6, "six")} {
				r, want, _ := told(which, 0, g.at)
				r.beside = beside
				b := g.bytes(r)
				if which>>1 != 0 || g.at && which != 0 {
					isWrong(t, g.what+" "+strconv.Itoa(which), g.get, b, 0, api.ErrForm)
				} else {
					isGot(t, g.what+" "+strconv.Itoa(which), g.get, b, 0, want, len(b))
				}
			}
		}
	}
}

// P10.2: an item 1 that doesn't have just whole numbers has as many as are whole; one that has too few isn't helped by what stands behind it, nor by a second one.
func TestItemOfOtherLengths(t *testing.T) {
	for _, g := range getters {
		for long := range 40 {
			for which, need := range []int{0, 1, 1, 2, 1, 2, 2, 3} {
				if !g.at {
					need = which>>2 + which>>1&1
				}
				for _, behind := range []string{"", other(0, strings.Repeat("\x00", 30)), item1(7, 7, 7)} {
					what := g.what + " " + strconv.Itoa(long) + " " + strconv.Itoa(which)
					r, _, _ := told(which, 0, g.at)
					r.beside = other(1, strings.Repeat("\x05\x04\x03\x02\x01\x00\x00\x00", 5)[:long]) + behind
					b := g.bytes(r)
					if long < 8*need {
						isWrong(t, what, g.get, b, 0, api.ErrForm)
						continue
					}
					want := r.want(g.at)
					for _, p := range []*int{&want.Size, &want.Csize, &want.At} {
						if *p == ones4 {
							*p, want.Wide = 0x0102030405, true
						}
					}
					isGot(t, what, g.get, b, 0, want, len(b))
				}
			}
		}
	}
}

// P10.2: a number in the item 1 may be as small as any, all ones of 4 bytes, and 2^48 - 1, but no more.
func TestItemsNumbers(t *testing.T) {
	for _, g := range getters {
		for place := range 3 {
			if place == 2 && !g.at {
				continue
			}
			for _, n := range []uint64{0, 1, ones4 - 1, ones4, ones4 + 1, 1<<40 + 7, top48 - 1, top48, top48 + 1, 1<<48 + 5, 1 << 52, 1<<56 - 1, 1 << 56, 1 << 62, 1<<63 - 1, 1 << 63, 1<<63 + 1, 0xffff << 48, 1<<64 - 1} {
				r := some()
				r.csize, r.size, r.at = ones4, ones4, ones4
				numbers := []uint64{1, 2, 3}
				numbers[place] = n
				r.beside = item1(numbers...)
				b := g.bytes(r)
				what := g.what + " " + strconv.Itoa(place) + " " + strconv.FormatUint(n, 16)
				if n > top48 {
					isWrong(t, what, g.get, b, 0, api.ErrForm)
					continue
				}
				want := r.want(false)
				want.Size, want.Csize, want.Wide = int(numbers[0]), int(numbers[1]), true
				if g.at {
					want.At = int(numbers[2])
				}
				isGot(t, what, g.get, b, 0, want, len(b))
			}
		}
	}
}

// P10.2: no item goes beyond the end of what is beside, whichever it is, and whatever stands behind that.
func TestItemsBeyond(t *testing.T) {
	for _, g := range getters {
		for i, ahead := range []string{"", other(9, "nine"), item1(), item1(1, 2, 3), item1(1, 2, 3) + other(2, "")} {
			for j, last := range []string{"\x01", "\x02\x00", "\x00\x00\x00", "\x01\x00\x01\x00", "\x02\x00\x01\x00", "\x00\x00\xff\xff", "\x01\x00\x18\x00" + strings.Repeat("\x00", 23),
				"\x01\x00\x00\x01" + strings.Repeat("\x00", 24), "\x09\x00\x05\x00four", "\x01\x00\x05\x00four", "\x01\x00\x08\x00\x01\x02\x03"} {
				what := g.what + " " + strconv.Itoa(i) + " " + strconv.Itoa(j)
				for _, ones := range []bool{false, true} {
					r := some()
					r.beside = ahead + last
					if ones {
						r.csize, r.size, r.at = ones4, ones4, ones4
					}
					isWrong(t, what, g.get, g.bytes(r), 0, api.ErrForm)
					r.comment = strings.Repeat("\x00", 300)
					isWrong(t, what+" with a comment", g.get, g.bytes(r), 0, api.ErrForm)
					isWrong(t, what+" and more", g.get, g.bytes(r)+strings.Repeat("\x00", 300), 0, api.ErrForm)
				}
			}
		}
	}
}

// P10.2: items fill what is beside just to its end, as many as there may be.
func TestManyItems(t *testing.T) {
	for _, g := range getters {
		for _, beside := range []string{strings.Repeat(other(0, ""), 65532/4), strings.Repeat(other(1, ""), 65532/4), other(3, strings.Repeat("3", 65531)), item1() + other(1, strings.Repeat("\xff", 65527))} {
			r := some()
			r.beside = beside
			b := g.bytes(r)
			isGot(t, g.what, g.get, b, 0, r.want(g.at), len(b))
			r.size = ones4
			switch beside[0] {
			case 1:
				isWrong(t, g.what, g.get, g.bytes(r), 0, api.ErrForm)
			case 0:
				r.beside = beside[:65532-12] + item1(5)
				b, want := g.bytes(r), r.want(g.at)
				want.Size, want.Wide = 5, true
				isGot(t, g.what, g.get, b, 0, want, len(b))
			}
		}
	}
}
