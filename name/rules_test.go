package name

import (
	"bytes"
	"slices"
	"strings"
	"sync"
	"testing"
)

// R1: any bytes are taken, also far more than a name may have.
func TestLongTexts(t *testing.T) {
	const many = 1 << 22
	for _, c := range []struct {
		r, raw string
		utf8   bool
	}{{"x", "x", false}, {"\x00", "\x00", false}, {"é", "\x82", false}, {"■", "\xfe", false}, {"ж", "ж", true}, {"😀", "😀", true}} {
		name := strings.Repeat(c.r, many)
		b, told := Encode(name)
		if string(b) != strings.Repeat(c.raw, many) || told != c.utf8 {
			t.Errorf("%q: %d bytes, %v", c.r, len(b), told)
		}
		if got, is := Decode(b, told); got != name || !is {
			t.Errorf("%q: %d bytes decoded, %v", c.r, len(got), is)
		}
		if got, is := Decode([]byte(name), true); got != name || !is {
			t.Errorf("%q: %d bytes decoded as UTF-8, %v", c.r, len(got), is)
		}
		if May(name) {
			t.Errorf("%q: %d bytes may be an entry's", c.r, len(name))
		}
		for _, w := range []string{"\xff", "\x80", "\xe2\x82", "\xed\xa0\x80"} {
			asWrong(t, name+w)
			asWrong(t, w+name)
		}
	}
}

// R1: any byte alone, many times.
func TestManyOfEachByte(t *testing.T) {
	for b := range 256 {
		for _, many := range []int{0, 1, 2, 3, 39, 40, 41, 100} {
			asModel(t, strings.Repeat(string([]byte{byte(b)}), many))
		}
	}
}

// R2: no call here tells an error; beside false, Decode tells nothing, whatever was right ahead of the fault.
func TestNothingBesideFalse(t *testing.T) {
	for _, raw := range []string{"\xff", "a.txt\xff", "été\xc3", "\xffa.txt", strings.Repeat("x", 1000) + "\x80"} {
		if name, is := Decode([]byte(raw), true); name != "" || is {
			t.Errorf("Decode(%q, true): %q, %v", raw, name, is)
		}
	}
}

// R3: nil and empty are one, handed in, and an answer of nothing is of no bytes.
func TestNilIsEmpty(t *testing.T) {
	for _, utf8 := range []bool{true, false} {
		one, isOne := Decode(nil, utf8)
		other, isOther := Decode([]byte{}, utf8)
		if one != other || isOne != isOther || one != "" || !isOne {
			t.Errorf("utf8 %v: %q, %v, %q, %v", utf8, one, isOne, other, isOther)
		}
	}
	if b, _ := Encode(""); len(b) != 0 {
		t.Errorf("%x", b)
	}
}

// roomy is the text's bytes, with room behind them that is filled, so that a write into it is seen.
func roomy(text string, fill byte) []byte {
	whole := append([]byte(text), bytes.Repeat([]byte{fill}, 64)...)
	return whole[:len(text)]
}

// R4: what is handed in isn't changed, spare room included.
func TestArgumentsStay(t *testing.T) {
	for _, text := range append([]string{"", "a.txt", "été", "ж€", "\x82\xff"}, wrong...) {
		b := roomy(text, 0xaa)
		before := slices.Clone(b[:cap(b)])
		Decode(b, true)
		Decode(b, false)
		if !bytes.Equal(b[:cap(b)], before) {
			t.Errorf("%q: %x", text, b[:cap(b)])
		}
	}
}

// R4: what is handed in isn't kept: when it changes later, the name doesn't.
func TestArgumentsAreNotKept(t *testing.T) {
	for _, c := range []struct {
		raw, name string
		utf8      bool
	}{{"a.txt", "a.txt", true}, {"a.txt", "a.txt", false}, {"\x82", "é", false}, {"x", "x", true}, {"ж😀", "ж😀", true}} {
		b := roomy(c.raw, 0xaa)
		name, _ := Decode(b, c.utf8)
		for i := range b[:cap(b)] {
			b[:cap(b)][i] = '?'
		}
		if name != c.name {
			t.Errorf("Decode(%q, %v), changed later: %q", c.raw, c.utf8, name)
		}
	}
}

// R4: what is answered shares no memory with the name, or with an earlier answer, spare room included.
func TestAnswersAreNew(t *testing.T) {
	for _, s := range append(slices.Clone(some), some[0]) {
		name := strings.Clone(s.name)
		first, _ := Encode(name)
		second, _ := Encode(name)
		for i := range first[:cap(first)] {
			first[:cap(first)][i] = '!'
		}
		first = append(first, "more"...)
		if string(second) != s.raw || name != s.name {
			t.Errorf("%q: %x, name %q", s.name, second, name)
		}
		if third, told := Encode(name); string(third) != s.raw || told != s.utf8 {
			t.Errorf("%q, asked again: %x, %v", s.name, third, told)
		}
	}
	for _, text := range wrong {
		kept := strings.Clone(text)
		b, _ := Encode(text)
		for i := range b[:cap(b)] {
			b[:cap(b)][i] = '!'
		}
		if text != kept {
			t.Errorf("%q became %q", kept, text)
		}
	}
}

// R4: the room that an answer has behind it is its own.
func TestSpareRoomIsItsOwn(t *testing.T) {
	one, _ := Encode("été")
	other, _ := Encode("ж")
	one = append(one, "12345678"...)
	other = append(other, "abcdefgh"...)
	if string(one) != "\x82t\x8212345678" || string(other) != "жabcdefgh" {
		t.Errorf("%x, %x", one, other)
	}
}

// R5: what is answered hangs on the arguments alone: the same again, whatever was asked in between, and by several at once.
func TestSameAgain(t *testing.T) {
	var all sync.WaitGroup
	for k := range 8 {
		all.Add(1)
		go func() {
			defer all.Done()
			for i := range 1000 {
				s := some[(i+k)%len(some)]
				b, told := Encode(s.name)
				tight, is := Decode(slices.Clip([]byte(s.raw)), s.utf8)
				loose, isToo := Decode(roomy(s.raw, byte(k)), s.utf8)
				if string(b) != s.raw || told != s.utf8 || tight != s.name || !is || loose != s.name || !isToo || !May(s.name) {
					t.Errorf("%q: %x, %v, %q, %v, %q, %v", s.name, b, told, tight, is, loose, isToo)
				}
				w := wrong[(i+k)%len(wrong)]
				Encode(w)
				Decode([]byte(w), true)
				Decode([]byte(w), false)
				May(w)
			}
		}()
	}
	all.Wait()
}
