package dos

import (
	"strings"
	"testing"

	"inquest/api"
)

// P8.2: a number as a text, and the number that is written so.
func TestTextAndParse(t *testing.T) {
	for _, s := range some {
		if text, e := Text(s.n); text != s.text || e != api.OK {
			t.Errorf("Text(%d): %q, %v, wanted %q", s.n, text, e, s.text)
		}
		if n, is := Parse(s.text); n != s.n || !is {
			t.Errorf("Parse(%q): %d, %v, wanted %d", s.text, n, is, s.n)
		}
	}
}

// P8.2: a time of 0 is read in both ways, and so is an odd second.
func TestParseOtherWays(t *testing.T) {
	for text, want := range map[string]int{
		"2024-02-29 00:00:00": 1482489856,
		"2024-02-29":          1482489856,
		"2024-02-29 00:00:01": 1482489856,
		"2024-02-29 12:30:59": 1482489856 + 24576 + 960 + 29,
		"1980-01-01 00:00:00": 33 * 65536,
		"1980-01-01 00:00:03": 33*65536 + 1,
		"2107-12-31 00:00:00": 65439 * 65536,
		"2107-12-31":          65439 * 65536,
		"2107-12-31 23:59:59": 65439*65536 + 49021,
	} {
		if n, is := Parse(text); n != want || !is {
			t.Errorf("Parse(%q): %d, %v, wanted %d", text, n, is, want)
		}
	}
}

// P8.2: what isn't written so is no moment.
func TestParseWrong(t *testing.T) {
	for _, text := range []string{
		"", " ", "2", "2024", "2024-02", "2024-02-2", "2024-2-29", "24-02-29", "02024-02-29", "2024-02-029", "2024-002-9", "2024-0229", "20240229",
		"2024-02-29 ", " 2024-02-29", "2024-02-29 1", "2024-02-29 12", "2024-02-29 12:30", "2024-02-29 12:30:5", "2024-02-29 12:30:", "2024-02-29 2:30:58",
		"2024-02-29 12:30:58 ", " 2024-02-29 12:30:58", "2024-02-29  12:30:58", "2024-02-29 12:30:580", "2024-02-29 12:30:58.0", "2024-02-29 12:30:58Z",
		"2024-02-29T12:30:58", "2024-02-29t12:30:58", "2024-02-29\t12:30:58", "2024-02-29_12:30:58", "2024-02-29\x0012:30:58", "2024-02-29\n12:30:58",
		"2024/02/29", "2024.02.29", "2024:02:29", "2024 02 29", "2024-02-29 12-30-58", "2024-02-29 12.30.58", "2024-02-29 12 30 58",
		"+024-02-29", "-024-02-29", " 024-02-29", "2024-+2-29", "2024--2-29", "2024- 2-29", "2024-02-+9", "2024-02--9", "2024-02- 9", "2024-02-9 ", "2024-2 -29",
		"2024-02-29 +2:30:58", "2024-02-29 -2:30:58", "2024-02-29  2:30:58", "2024-02-29 12:+0:58", "2024-02-29 12: 0:58", "2024-02-29 12:30:+8", "2024-02-29 12:30:-8", "2024-02-29 12:30: 8", "2024-02-29 12:30:8 ",
		"0x24-02-29", "2e24-02-29", "2_24-02-29", "202a-02-29", "2024-0b-29", "2024-02-0c", "2O24-O2-29", "202:-02-29", "202/-02-29",
		"２０２４-02-29", "2024‐02‐29", "2024-02-٩", "20²4-02-2",
		"0000-00-00", "0000-00-00 00:00:00", "0001-01-01", "1979-12-31", "1979-12-31 23:59:59", "2108-01-01", "2108-01-01 00:00:00", "9999-12-31", "9999-99-99 99:99:99",
		"2024-00-29", "2024-13-29", "2024-99-29", "2024-02-00", "2024-02-30", "2024-02-31", "2024-02-32", "2024-01-32", "2024-04-31", "2024-06-31", "2024-09-31", "2024-11-31", "2024-12-32",
		"2023-02-29", "2100-02-29", "2001-02-29", "2023-02-29 12:30:58", "2100-02-29 00:00:00",
		"2024-02-29 24:00:00", "2024-02-29 24:30:58", "2024-02-29 99:30:58", "2024-02-29 12:60:58", "2024-02-29 12:99:58", "2024-02-29 12:30:60", "2024-02-29 12:30:61", "2024-02-29 12:30:99", "2024-02-29 23:59:60",
		"2024-02-2900:00:00", "2024-02-29-00:00:00", "today", "now", strings.Repeat("2024-02-29", 2), strings.Repeat("0", 10), strings.Repeat("0", 19), strings.Repeat("-", 10), strings.Repeat("2", 1<<20),
	} {
		if n, is := Parse(text); n != 0 || is {
			t.Errorf("Parse(%q): %d, %v", text, n, is)
		}
	}
}

// P8.2: right texts with one byte changed to any other, left out, or put in, and cut off at each place.
func TestParseNearlyRight(t *testing.T) {
	for _, text := range []string{"2024-02-29", "2024-02-29 12:30:58", "1980-01-01 00:00:00", "2107-12-31 23:59:59", "1999-10-30 19:50:01", "2000-02-28"} {
		asModelIn(t, text)
		for at := range len(text) {
			asModelIn(t, text[:at])
			asModelIn(t, text[at:])
			asModelIn(t, text[:at]+text[at+1:])
			for c := range 256 {
				asModelIn(t, text[:at]+string([]byte{byte(c)})+text[at+1:])
				asModelIn(t, text[:at]+string([]byte{byte(c)})+text[at:])
			}
			for other := range len(text) {
				b := []byte(text)
				b[at], b[other] = b[other], b[at]
				asModelIn(t, string(b))
			}
		}
		for c := range 256 {
			asModelIn(t, text+string([]byte{byte(c)}))
		}
	}
}

// P8.2: of two digits each, all months and days of some years, and all hours, minutes and seconds of some days.
func TestParseAllDigits(t *testing.T) {
	two := func(n int) string { return string([]byte{'0' + byte(n/10), '0' + byte(n%10)}) }
	for a := range 100 {
		for b := range 100 {
			for _, year := range []string{"1979", "1980", "2000", "2023", "2100", "2107", "2108"} {
				asModelIn(t, year+"-"+two(a)+"-"+two(b))
			}
			asModelIn(t, two(a)+two(b)+"-01-01")
			asModelIn(t, two(a)+two(b)+"-02-29 00:00:00")
			asModelIn(t, "2024-02-29 "+two(a)+":"+two(b)+":00")
			asModelIn(t, "2107-12-31 "+two(a)+":00:"+two(b))
			asModelIn(t, "1980-01-01 00:"+two(a)+":"+two(b))
		}
	}
}
