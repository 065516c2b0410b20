package name

import (
	"strings"
	"testing"
)

// The model tells the chapter anew: the code page by the chapter's own rows, and what is right UTF-8 by RFC 3629's list of how runes are written.

// rows are the chapter's, but for the last rune.
const rows = "ÇüéâäàåçêëèïîìÄÅ ÉæÆôöòûùÿÖÜ¢£¥₧ƒ áíóúñÑªº¿⌐¬½¼¡«» ░▒▓│┤╡╢╖╕╣║╗╝╜╛┐ └┴┬├─┼╞╟╚╔╩╦╠═╬╧ ╨╤╥╙╘╒╓╫╪┘┌█▄▌▐▀ αßΓπΣσµτΦΘΩδ∞φε∩ ≡±≥≤⌠⌡÷≈°∙·√ⁿ²■"

// pageRunes are the runes of the bytes from 128 on.
func pageRunes() []rune {
	return append([]rune(strings.ReplaceAll(rows, " ", "")), 0xa0)
}

// pageRune is the rune of b.
func pageRune(b int) rune {
	if b < 128 {
		return rune(b)
	}
	return pageRunes()[b-128]
}

// pageByte is the byte whose rune r is, if there is one.
func pageByte(r rune) (byte, bool) {
	if r >= 0 && r < 128 {
		return byte(r), true
	}
	for i, x := range pageRunes() {
		if x == r {
			return byte(128 + i), true
		}
	}
	return 0, false
}

// ways are how runes may be written: the first byte, and the second, from and to; how many bytes in all. Those behind the second are from 80 to bf.
var ways = []struct{ first, firstTo, second, secondTo, many int }{
	{0x00, 0x7f, 0, 0, 1},
	{0xc2, 0xdf, 0x80, 0xbf, 2},
	{0xe0, 0xe0, 0xa0, 0xbf, 3},
	{0xe1, 0xec, 0x80, 0xbf, 3},
	{0xed, 0xed, 0x80, 0x9f, 3},
	{0xee, 0xef, 0x80, 0xbf, 3},
	{0xf0, 0xf0, 0x90, 0xbf, 4},
	{0xf1, 0xf3, 0x80, 0xbf, 4},
	{0xf4, 0xf4, 0x80, 0x8f, 4},
}

// runesIn are the runes of the text, if it is right UTF-8.
func runesIn(text string) ([]rune, bool) {
	var l []rune
	for at := 0; at < len(text); {
		r, many := runeAt(text[at:])
		if many == 0 {
			return nil, false
		}
		l = append(l, r)
		at += many
	}
	return l, true
}

// runeAt is the rune with which the text begins, and how many bytes it has: none, if it isn't right.
func runeAt(text string) (rune, int) {
	for _, w := range ways {
		if int(text[0]) < w.first || int(text[0]) > w.firstTo || len(text) < w.many {
			continue
		}
		if w.many == 1 {
			return rune(text[0]), 1
		}
		if int(text[1]) < w.second || int(text[1]) > w.secondTo {
			continue
		}
		r := rune(text[0]) & (1<<(7-w.many) - 1)
		for i := 1; i < w.many; i++ {
			if text[i]/64 != 2 {
				return 0, 0
			}
			r = r*64 + rune(text[i]%64)
		}
		return r, w.many
	}
	return 0, 0
}

// decoded is what Decode is to answer.
func decoded(raw string, utf8 bool) (string, bool) {
	if utf8 {
		if _, is := runesIn(raw); !is {
			return "", false
		}
		return raw, true
	}
	var l []rune
	for i := range len(raw) {
		l = append(l, pageRune(int(raw[i])))
	}
	return string(l), true
}

// encoded is what Encode is to answer.
func encoded(name string) (string, bool) {
	l, is := runesIn(name)
	if !is {
		return name, true
	}
	var b []byte
	for _, r := range l {
		x, is := pageByte(r)
		if !is {
			return name, true
		}
		b = append(b, x)
	}
	return string(b), false
}

// entrys is what May is to answer.
func entrys(name string) bool {
	l, is := runesIn(name)
	if !is || len(name) == 0 || len(name) > 40 {
		return false
	}
	for _, r := range l {
		if r < 32 || r == 127 {
			return false
		}
	}
	return true
}

// asModel holds all that is asked of these bytes against the model; and what is encoded is decoded, if it may be a name (P9.3).
func asModel(t *testing.T, text string) {
	t.Helper()
	for _, utf8 := range []bool{true, false} {
		want, wants := decoded(text, utf8)
		if got, is := Decode([]byte(text), utf8); got != want || is != wants {
			t.Errorf("Decode(%q, %v): %q, %v, wanted %q, %v", text, utf8, got, is, want, wants)
		}
	}
	want, wants := encoded(text)
	b, told := Encode(text)
	if string(b) != want || told != wants {
		t.Errorf("Encode(%q): %q, %v, wanted %q, %v", text, b, told, want, wants)
	}
	if got := May(text); got != entrys(text) {
		t.Errorf("May(%q): %v", text, got)
	}
	if !entrys(text) {
		return
	}
	if back, is := Decode(b, told); back != text || !is {
		t.Errorf("%q, encoded as %q, %v, is decoded as %q, %v", text, b, told, back, is)
	}
}
