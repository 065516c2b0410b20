package name

import (
	"strings"
	"testing"
)

// some are names, the bytes that they are encoded as, and whether these are UTF-8.
var some = []struct {
	name, raw string
	utf8      bool
}{
	{"a", "a", false},
	{"a.txt", "a.txt", false},
	{"b/two", "b/two", false},
	{" !~", " !~", false},
	{"é", "\x82", false},
	{"Çü", "\x80\x81", false},
	{"été", "\x82t\x82", false},
	{"╔═╗", "\xc9\xcd\xbb", false},
	{"√²■", "\xfb\xfd\xfe", false},
	{"ß", "\xe1", false},
	{"µ", "\xe6", false},
	{"Ω", "\xea", false},
	{"\u00a0", "\xff", false},
	{"\u00a0\u00a0x", "\xff\xffx", false},
	{"ж", "\xd0\xb6", true},
	{"éж", "\xc3\xa9\xd0\xb6", true},
	{"жé", "\xd0\xb6\xc3\xa9", true},
	{"a.txt€", "a.txt\xe2\x82\xac", true},
	{"😀", "\xf0\x9f\x98\x80", true},
	{"\u0080", "\xc2\x80", true},
	{"\u009f", "\xc2\x9f", true},
	{"\ufffd", "\xef\xbf\xbd", true},
	{"\ufeffa", "\xef\xbb\xbfa", true},
	{"\U0010ffff", "\xf4\x8f\xbf\xbf", true},
}

// P9.1, P9.3: names as bytes, and these as names again.
func TestEncodeAndDecode(t *testing.T) {
	for _, s := range some {
		if b, told := Encode(s.name); string(b) != s.raw || told != s.utf8 {
			t.Errorf("Encode(%q): %x, %v, wanted %x, %v", s.name, b, told, s.raw, s.utf8)
		}
		if name, is := Decode([]byte(s.raw), s.utf8); name != s.name || !is {
			t.Errorf("Decode(%x, %v): %q, %v, wanted %q", s.raw, s.utf8, name, is, s.name)
		}
		if !May(s.name) {
			t.Errorf("%q may not be an entry's", s.name)
		}
	}
}

// P9.1: what is told is what counts, not what the bytes look like.
func TestDecodeAsTold(t *testing.T) {
	for _, c := range []struct{ raw, utf8, page string }{
		{"a.txt", "a.txt", "a.txt"},
		{"\xc3\xa9", "é", "├⌐"},
		{"\xc2\xa0", "\u00a0", "┬á"},
		{"\xe2\x82\xac", "€", "Γé¼"},
		{"\xf0\x9f\x98\x80", "😀", "≡ƒÿÇ"},
		{"x\xef\xbb\xbf", "x\ufeff", "x∩╗┐"},
	} {
		if name, is := Decode([]byte(c.raw), true); name != c.utf8 || !is {
			t.Errorf("Decode(%x, true): %q, %v, wanted %q", c.raw, name, is, c.utf8)
		}
		if name, is := Decode([]byte(c.raw), false); name != c.page || !is {
			t.Errorf("Decode(%x, false): %q, %v, wanted %q", c.raw, name, is, c.page)
		}
	}
}

// P9.1: each byte by the code page, and back, alone, beside others, and all in one.
func TestAllBytes(t *testing.T) {
	var all []byte
	var names strings.Builder
	for b := range 256 {
		name := string(pageRune(b))
		for _, around := range []string{"", "a", "\x00"} {
			raw := around + string([]byte{byte(b)}) + around
			if got, is := Decode([]byte(raw), false); got != around+name+around || !is {
				t.Errorf("Decode(%x, false): %q, %v", raw, got, is)
			}
			if got, told := Encode(around + name + around); string(got) != raw || told {
				t.Errorf("Encode(%q): %x, %v, wanted %x", around+name+around, got, told, raw)
			}
		}
		all = append(all, byte(b))
		names.WriteString(name)
	}
	if got, is := Decode(all, false); got != names.String() || !is {
		t.Errorf("all bytes: %q, %v", got, is)
	}
	if got, told := Encode(names.String()); string(got) != string(all) || told {
		t.Errorf("all runes: %x, %v", got, told)
	}
}

// P9.1: some bytes of each row, by the numbers of their runes.
func TestSomeBytes(t *testing.T) {
	for b, r := range map[byte]rune{
		0: 0, 1: 1, 31: 31, 32: 32, 65: 65, 126: 126, 127: 127,
		0x80: 0xc7, 0x8f: 0xc5, 0x90: 0xc9, 0x9e: 0x20a7, 0x9f: 0x192, 0xa0: 0xe1, 0xa9: 0x2310, 0xaf: 0xbb, 0xb0: 0x2591, 0xbf: 0x2510,
		0xc0: 0x2514, 0xcf: 0x2567, 0xd0: 0x2568, 0xdf: 0x2580, 0xe0: 0x3b1, 0xe1: 0xdf, 0xe4: 0x3a3, 0xe5: 0x3c3, 0xe6: 0xb5, 0xea: 0x3a9, 0xed: 0x3c6, 0xee: 0x3b5, 0xef: 0x2229,
		0xf0: 0x2261, 0xf9: 0x2219, 0xfa: 0xb7, 0xfe: 0x25a0, 0xff: 0xa0,
	} {
		if got, is := Decode([]byte{b}, false); got != string(r) || !is {
			t.Errorf("%02x: %q, %v, wanted %q", b, got, is, r)
		}
		if got, told := Encode(string(r)); string(got) != string([]byte{b}) || told {
			t.Errorf("%q: %x, %v, wanted %02x", r, got, told, b)
		}
	}
}

// P9.1: runes below 128 alone are the same bytes, told in either way.
func TestPlainNames(t *testing.T) {
	var l strings.Builder
	for r := range 128 {
		l.WriteByte(byte(r))
		for _, name := range []string{string(rune(r)), l.String(), strings.Repeat(string(rune(r)), r), "dir/" + string(rune(r)) + ".txt"} {
			if b, told := Encode(name); string(b) != name || told {
				t.Errorf("Encode(%q): %x, %v", name, b, told)
			}
			for _, utf8 := range []bool{true, false} {
				if got, is := Decode([]byte(name), utf8); got != name || !is {
					t.Errorf("Decode(%q, %v): %q, %v", name, utf8, got, is)
				}
			}
		}
	}
}

// P9.1: one rune that has no byte, wherever it stands, and the whole name stays as it is.
func TestOneRuneWithoutByte(t *testing.T) {
	others := []rune("aé╔\u00a0.~πZ")
	for _, r := range []rune{0x80, 0x85, 0x9f, 0xa4, 0xa6, 0xad, 0xc0, 0xd7, 0xff + 1, 0x3b2, 0x3bc, 0x3d5, 0x436, 0x2022, 0x20ac, 0x2126, 0x2205, 0x2208, 0x2302, 0x263a, 0x3000, 0xfeff, 0xfffd, 0xfffe, 0xffff, 0x10000, 0x10ffff} {
		for at := range len(others) + 1 {
			name := string(others[:at]) + string(r) + string(others[at:])
			b, told := Encode(name)
			if string(b) != name || !told {
				t.Errorf("Encode(%q): %x, %v", name, b, told)
			}
			if got, is := Decode(b, true); got != name || !is {
				t.Errorf("Decode(%x, true): %q, %v", b, got, is)
			}
		}
	}
	if b, told := Encode(string(others)); string(b) != "a\x82\xc9\xff.~\xe3Z" || told {
		t.Errorf("without it: %x, %v", b, told)
	}
}

// P9.1, P9.2: a name of nothing is encoded and decoded, but may not be an entry's.
func TestEmptyName(t *testing.T) {
	if b, told := Encode(""); len(b) != 0 || told {
		t.Errorf("Encode: %x, %v", b, told)
	}
	for _, raw := range [][]byte{nil, {}} {
		for _, utf8 := range []bool{true, false} {
			if name, is := Decode(raw, utf8); name != "" || !is {
				t.Errorf("Decode(%v, %v): %q, %v", raw, utf8, name, is)
			}
		}
	}
	if May("") {
		t.Error("it may be an entry's")
	}
}

// P9.2: a name has 1 to 40 bytes: bytes are counted, not runes.
func TestMayByLength(t *testing.T) {
	for _, r := range []string{"x", " ", "é", "╔", "ж", "😀", "\u0080", "\u00a0"} {
		for many := range 200 {
			for rest := range 4 {
				name := strings.Repeat(r, many) + strings.Repeat("y", rest)
				want := len(name) >= 1 && len(name) <= 40
				if May(name) != want {
					t.Errorf("%d bytes, %d times %q: %v", len(name), many, r, !want)
				}
			}
		}
	}
	for _, n := range []int{255, 256, 257, 296, 65536, 65537, 65576, 1 << 24} {
		if May(strings.Repeat("x", n)) {
			t.Errorf("%d bytes may be an entry's", n)
		}
	}
}

// P9.2: no rune below 32, and no 127, wherever it stands; any other may be.
func TestMayByRunes(t *testing.T) {
	edges := map[rune]bool{0: false, 9: false, 10: false, 13: false, 27: false, 31: false, 32: true, 33: true, 126: true, 127: false, 128: true, 133: true, 159: true, 160: true, 0xad: true, 0x17f: true, 0x11f: true, 0x10a: true, 0x2028: true, 0xfffd: true, 0x10007f: true, 0x10001f: true}
	for r := range rune(0x3000) {
		if _, is := edges[r]; !is {
			edges[r] = r > 31 && r != 127
		}
	}
	for r, want := range edges {
		for _, name := range []string{string(r), "a" + string(r), string(r) + "b", "é" + string(r) + "ж", strings.Repeat("x", 36) + string(r)} {
			if May(name) != want {
				t.Errorf("%q, of U+%04X: %v", name, r, !want)
			}
		}
	}
}

// P9.2: what else a name has doesn't matter: its parts, dots and marks.
func TestMayAnyText(t *testing.T) {
	for _, name := range []string{"/", "//", "a/", "/a", ".", "..", "../a", "a\\b", "c:", "*", "?", "[", "\"", "'", " ", "  ", " a ", "-", "\u200b", "\u202e", "\ufeff"} {
		if !May(name) {
			t.Errorf("%q may not be an entry's", name)
		}
	}
}

// P9.1, P9.2, P9.3: all runes up to U+3000, and those around where something begins beyond, alone and behind one that has a byte.
func TestAllRunes(t *testing.T) {
	all := func(from, to rune) {
		for r := from; r <= to; r++ {
			asModel(t, string(r))
			asModel(t, "ü"+string(r))
		}
	}
	all(0, 0x3000)
	for _, r := range []rune{0x3fff, 0x7fff, 0x8000, 0xcfff, 0xd7ff, 0xe000, 0xefff, 0xf000, 0xfb01, 0xfe00, 0xffff, 0x10000, 0x1f600, 0x1ffff, 0x20000, 0x3ffff, 0x40000, 0xfffff, 0x100000, 0x10ff80} {
		all(max(0x3000, r-40), r+40)
	}
	for r := rune(0x3000); r <= 0x10ffff; r += 61 {
		all(r, r)
	}
	all(0x10fff0, 0x10ffff)
}
