package name

import (
	"math/rand"
	"strings"
	"testing"
)

// wrong are bytes that aren't right UTF-8.
var wrong = []string{
	// One that belongs behind another, alone.
	"\x80", "\x8f", "\x90", "\x9f", "\xa0", "\xbf", "\x80\x80", "\xbf\xbf\xbf",
	// One more behind a rune that is whole.
	"a\x80", "\xc3\xa9\x80", "\xe2\x82\xac\x80", "\xf0\x9f\x98\x80\x80",
	// A rune that is cut short, at the end, ahead of a plain one, and ahead of another one.
	"\xc2", "\xc3", "\xdf", "\xe0", "\xe2", "\xe2\x82", "\xed", "\xed\x9f", "\xef\xbf", "\xf0", "\xf0\x9f", "\xf0\x9f\x98", "\xf4", "\xf4\x8f", "\xf4\x8f\xbf",
	"\xc3a", "\xe2a", "\xe2\x82a", "\xf0a", "\xf0\x9fa", "\xf0\x9f\x98a", "\xc3\xc3\xa9", "\xe2\x82\xe2\x82\xac", "\xf0\x9f\x98\xf0\x9f\x98\x80", "\xc3\x00", "\xe2\x82 ", "\xc3\x7f", "\xc3\xc0",
	// More bytes than it needs.
	"\xc0\x80", "\xc0\xaf", "\xc1\x81", "\xc1\xbf", "\xe0\x80\x80", "\xe0\x80\xaf", "\xe0\x82\xa9", "\xe0\x83\xa9", "\xe0\x9f\xbf", "\xf0\x80\x80\x80", "\xf0\x80\x80\xaf", "\xf0\x82\x82\xac", "\xf0\x8f\xbf\xbf", "\xf8\x80\x80\x80\x80", "\xf8\x88\x80\x80\x80", "\xfc\x80\x80\x80\x80\x80", "\xfc\x84\x80\x80\x80\x80",
	// The surrogates, alone and by two.
	"\xed\xa0\x80", "\xed\xa0\xbd", "\xed\xaf\xbf", "\xed\xb0\x80", "\xed\xb8\x80", "\xed\xbf\xbf", "\xed\xa0\xbd\xed\xb8\x80",
	// Runes above U+10FFFF.
	"\xf4\x90\x80\x80", "\xf4\xbf\xbf\xbf", "\xf5\x80\x80\x80", "\xf7\xbf\xbf\xbf", "\xfb\xbf\xbf\xbf\xbf", "\xfd\xbf\xbf\xbf\xbf\xbf",
	// Bytes that never stand in UTF-8.
	"\xc0", "\xc1", "\xf5", "\xf6", "\xf7", "\xf8", "\xfb", "\xfc", "\xfd", "\xfe", "\xff", "\xff\xfe", "\xfe\xff",
}

// asWrong holds that the text isn't decoded as UTF-8, is encoded as it is, and may not be an entry's name.
func asWrong(t *testing.T, text string) {
	t.Helper()
	if name, is := Decode([]byte(text), true); name != "" || is {
		t.Errorf("Decode(%x, true): %q, %v", text, name, is)
	}
	if b, told := Encode(text); string(b) != text || !told {
		t.Errorf("Encode(%x): %x, %v", text, b, told)
	}
	if May(text) {
		t.Errorf("%x may be an entry's", text)
	}
}

// P9.1, P9.2: bytes that aren't right UTF-8, alone, and with right ones ahead and behind.
func TestWrong(t *testing.T) {
	for _, w := range wrong {
		for _, ahead := range []string{"", "a", "é", "╔═╗", "ж", "😀", "\ufffd", strings.Repeat("x", 30)} {
			for _, behind := range []string{"", "a", "é", "ж", "\ufffd"} {
				asWrong(t, ahead+w+behind)
			}
		}
	}
}

// P9.1: what isn't right UTF-8 is decoded all the same by the code page, byte by byte.
func TestWrongByPage(t *testing.T) {
	for _, w := range wrong {
		var want strings.Builder
		for i := range len(w) {
			want.WriteRune(pageRune(int(w[i])))
		}
		name, is := Decode([]byte(w), false)
		if name != want.String() || !is {
			t.Errorf("Decode(%x, false): %q, %v, wanted %q", w, name, is, want.String())
		}
		if b, told := Encode(name); string(b) != w || told {
			t.Errorf("%q, of %x: %x, %v", name, w, b, told)
		}
	}
}

// P9.1, P9.2, P9.3: all texts of one byte and of two, and all of three and four in which each is about where something begins or ends.
func TestShortTexts(t *testing.T) {
	for a := range 256 {
		asModel(t, string([]byte{byte(a)}))
		for b := range 256 {
			asModel(t, string([]byte{byte(a), byte(b)}))
		}
	}
	firsts := "\x00\x41\x7f\x80\xbf\xc1\xc2\xc3\xdf\xe0\xe1\xe2\xec\xed\xee\xef\xf0\xf1\xf3\xf4\xf5\xf8\xfc\xff"
	tails := "\x00\x20\x7f\x80\x8f\x90\x9f\xa0\xbf\xc0\xe2\xff"
	for a := range len(firsts) {
		for b := range len(tails) {
			for c := range len(tails) {
				text := firsts[a:a+1] + tails[b:b+1] + tails[c:c+1]
				asModel(t, text)
				for d := range len(tails) {
					asModel(t, text+tails[d:d+1])
				}
			}
		}
	}
}

// P9.1, P9.2, P9.3: right texts with any one byte changed, left out or put in, and cut off at each place.
func TestNearlyRight(t *testing.T) {
	for _, text := range []string{"été.txt", "a/ж€", "╔═╗ \u00a0", "x😀\U0010ffff", "\ufffd\ud7ff\ue000", "\u0080\u07ff\u0800\uffff"} {
		asModel(t, text)
		for at := range len(text) {
			asModel(t, text[:at])
			asModel(t, text[at:])
			asModel(t, text[:at]+text[at+1:])
			for c := range 256 {
				asModel(t, text[:at]+string([]byte{byte(c)})+text[at+1:])
				asModel(t, text[:at]+string([]byte{byte(c)})+text[at:])
			}
		}
	}
}

// P9.1, P9.2, P9.3: names of any runes, right ones mostly, and of any bytes, about as long as they may be.
func TestAnyNames(t *testing.T) {
	x := rand.New(rand.NewSource(9))
	page := pageRunes()
	for range 20000 {
		var l strings.Builder
		kinds := 1 + x.Intn(4)
		for long := 1 + x.Intn(45); l.Len() < long; {
			switch x.Intn(kinds) {
			case 0:
				l.WriteRune(rune(32 + x.Intn(95)))
			case 1:
				l.WriteRune(page[x.Intn(len(page))])
			case 2:
				l.WriteRune(rune(x.Intn(0x10ffff >> x.Intn(12))))
			case 3:
				l.WriteByte(byte(x.Intn(256)))
			}
		}
		asModel(t, l.String())
	}
}
