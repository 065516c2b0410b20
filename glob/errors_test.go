package glob

import (
	"strings"
	"testing"

	"inquest/api"
)

// wrong are patterns that aren't right, each for one reason.
func wrong() []struct{ why, pattern string } {
	return []struct{ why, pattern string }{
		{"a class that doesn't end", "["},
		{"a class that doesn't end", "[a"},
		{"a class that doesn't end", "[abc"},
		{"a class that doesn't end", "[a-c"},
		{"a class that doesn't end", "x[a"},
		{"a class that doesn't end", "[a][b"},
		{"a class that doesn't end", "[[a"},
		{"a class that doesn't end", "[*?"},
		{"a class that doesn't end", "[a\\]"},
		{"a class that doesn't end", "[\\]"},
		{"a class that doesn't end", "[\\\\"},
		{"a class that doesn't end", "[é"},
		{"a class that doesn't end, as ] is its first part", "[]"},
		{"a class that doesn't end, as ] is its first part", "[]a"},
		{"a class that doesn't end, as ] is its first part", "[]-"},
		{"a class that doesn't end, as ] is its first part", "[]-a"},
		{"a class that doesn't end, as ] is its first part", "a[]b"},
		{"a class that doesn't end, behind [!", "[!"},
		{"a class that doesn't end, behind [!", "[!a"},
		{"a class that doesn't end, behind [!", "[!!"},
		{"a class that doesn't end, behind [!", "[!-"},
		{"a class that doesn't end, behind [!", "[!]"},
		{"a class that doesn't end, behind [!", "[!]a"},
		{"a class that doesn't end, behind [!", "[!a-c"},
		{"a class that doesn't end, behind [!", "[!\\]"},
		{"a class that doesn't end, behind a -", "[-"},
		{"a class that doesn't end, behind a -", "[a-"},
		{"a class that doesn't end, behind a -", "[--"},
		{"a class that doesn't end, behind a -", "[---"},
		{"a class that doesn't end, behind a -", "[a-c-"},
		{"a class that doesn't end, behind a -", "[!a-"},
		{"a class that doesn't end, behind a -", "[a-\\]"},
		{"from a greater rune to a smaller one", "[b-a]"},
		{"from a greater rune to a smaller one", "[!b-a]"},
		{"from a greater rune to a smaller one", "x[b-a]y"},
		{"from a greater rune to a smaller one", "[a-cz-y]"},
		{"from a greater rune to a smaller one", "[z-ya-c]"},
		{"from a greater rune to a smaller one", "[a-Z]"},
		{"from a greater rune to a smaller one", "[é-e]"},
		{"from a greater rune to a smaller one", "[😀-€]"},
		{"from a greater rune to a smaller one", "[\\b-\\a]"},
		{"from a greater rune to a smaller one", "[b-\\a]"},
		{"from a greater rune to a smaller one", "[\\b-a]"},
		{"from a greater rune to a smaller one", "[a--]"},
		{"from a greater rune to a smaller one", "[a-\\-]"},
		{"from a greater rune to a smaller one", "[a-\\]]"},
		{"from a greater rune to a smaller one", "[]-\\[]"},
		{"from a greater rune to a smaller one", "[--+]"},
		{"from a greater rune to a smaller one", "[!--!]"},
		{"from a greater rune to a smaller one", "[a-c--,]"},
		{"from a greater rune to a smaller one", "[\x01-\x00]"},
		{"from a greater rune to a smaller one", "[\U0010ffff-\ufffd]"},
		{"a backslash at its end", "\\"},
		{"a backslash at its end", "a\\"},
		{"a backslash at its end", "*\\"},
		{"a backslash at its end", "[a]\\"},
		{"a backslash at its end", "\\\\\\"},
		{"a backslash at its end", "\\*\\"},
		{"a backslash at its end, in a class", "[\\"},
		{"a backslash at its end, in a class", "[a\\"},
		{"a backslash at its end, in a class", "[!\\"},
		{"a backslash at its end, in a class", "[a-\\"},
		{"a backslash at its end, in a class", "[\\]\\"},
		{"a backslash at its end, in a class", "[\\\\\\"},
		{"not right UTF-8", "\xff"},
		{"not right UTF-8", "\x80"},
		{"not right UTF-8", "a\xff"},
		{"not right UTF-8", "\xffa"},
		{"not right UTF-8", "a\xffb"},
		{"not right UTF-8", "\xc3"},
		{"not right UTF-8", "\xe2\x82"},
		{"not right UTF-8", "\xf0\x9f\x98"},
		{"not right UTF-8", "\xc0\x80"},
		{"not right UTF-8", "\xed\xa0\x80"},
		{"not right UTF-8", "\xf4\x90\x80\x80"},
		{"not right UTF-8", "é\xa9"},
		{"not right UTF-8", "*\xff"},
		{"not right UTF-8", "[\xff]"},
		{"not right UTF-8", "[a\xff]"},
		{"not right UTF-8", "[a-\xff]"},
		{"not right UTF-8", "[\x80-\xff]"},
		{"not right UTF-8", "[!\xff]"},
		{"not right UTF-8", "\\\xff"},
		{"not right UTF-8", "[\\\xff]"},
		{"not right UTF-8", "\\\xc3"},
	}
}

// is asks that the pattern has this error, and nothing beside.
func is(t *testing.T, why, pattern string, want api.Errno) {
	t.Helper()
	if g, e := New(pattern); g != nil || e != want {
		t.Errorf("%s: New(%q): %v, %v, wanted %v", why, pattern, g, e, want)
	}
}

// P13.1, R2: each reason for which a pattern isn't right, alone, and whatever is ahead.
func TestWrongPatterns(t *testing.T) {
	for _, w := range wrong() {
		is(t, w.why, w.pattern, api.ErrForm)
		if _, right := asModel(t, w.pattern); right {
			t.Errorf("%s: %q is right by the model", w.why, w.pattern)
		}
		for _, ahead := range []string{"a", "?", "*", "**", "[a-c]", "[!]]", "\\*", "\\[", "\\\\", "😀", "]", "-", "!", "/", strings.Repeat("x", 80)} {
			is(t, w.why, ahead+w.pattern, api.ErrForm)
		}
	}
}

// P13.1: what was not right is, when what is missing comes, or what is too much goes.
func TestMended(t *testing.T) {
	for _, m := range [][2]string{
		{"[", "[a]"}, {"[a", "[a]"}, {"[!", "[!a]"}, {"[a-", "[a-]"}, {"[a-", "[a-b]"}, {"[]", "[]]"}, {"[!]", "[!]]"}, {"[", "\\["},
		{"[b-a]", "[a-b]"}, {"[b-a]", "[b-b]"}, {"[b-a]", "[ba-]"}, {"[b-a]", "[b\\-a]"}, {"[b-a]", "\\[b-a]"}, {"[a--]", "[a-]"},
		{"\\", "\\\\"}, {"a\\", "a"}, {"[\\", "[\\]]"}, {"[a-\\", "[a-\\b]"}, {"[\\]", "[\\\\]"}, {"[a-\\]", "[A-\\]]"},
		{"\xff", "\ufffd"}, {"\xc3", "\xc3\xa9"}, {"[\xff]", "[\ufffd]"}, {"\\\xff", "\\\ufffd"},
	} {
		is(t, "not mended", m[0], api.ErrForm)
		if g, e := New(m[1]); g == nil || e != api.OK {
			t.Errorf("New(%q): %v, %v", m[1], g, e)
		}
	}
}

// P13.1, R2: more than 100 bytes, alone and beside each other reason: it is the length that is told.
func TestTooLong(t *testing.T) {
	for _, w := range wrong() {
		fill := strings.Repeat("x", 101-len(w.pattern))
		is(t, "too long, and "+w.why, fill+w.pattern, api.ErrLong)
		is(t, "too long, and "+w.why, w.pattern+strings.Repeat("x", 100), api.ErrLong)
		is(t, w.why, fill[1:]+w.pattern, api.ErrForm)
	}
	for _, long := range []string{"a", "*", "?", "/", "\x00", "[a]", "\\a", "é", "😀", "\xff"} {
		for _, many := range []int{101, 102, 1000, 1 << 20} {
			is(t, "too long", strings.Repeat(long, many), api.ErrLong)
		}
	}
	is(t, "too long", strings.Repeat("a", 101), api.ErrLong)
	is(t, "too long in bytes", strings.Repeat("é", 50)+"a", api.ErrLong)
	is(t, "too long", "["+strings.Repeat("a", 99)+"]", api.ErrLong)
	is(t, "too long, and ends at 100", strings.Repeat("a", 100)+"\\", api.ErrLong)
}

// P13.1: two reasons at once within a pattern that isn't too long are one error.
func TestSeveralReasons(t *testing.T) {
	for _, a := range wrong() {
		for _, b := range wrong() {
			if _, right := pieces(a.pattern + b.pattern); !right {
				is(t, a.why+", "+b.why, a.pattern+b.pattern, api.ErrForm)
			}
			asModel(t, a.pattern+b.pattern, "", "a", "]", "-")
		}
	}
}

// P13.1: of right patterns, those with any byte changed, put in, or left out are as the model has them.
func TestChangedPatterns(t *testing.T) {
	names := []string{"", "a", "b", "]", "-", "ab", "a/b", "é", "\xff"}
	right, wrong := 0, 0
	for _, p := range []string{"[a-c]x", "[!]-a]*", "a\\*[\\]b-]", "**/é?[€-😀]", "[!a-][]]", "\\\\[\\\\-\\]]"} {
		for at := range len(p) + 1 {
			for b := range 256 {
				changed := []string{p[:at] + string([]byte{byte(b)}) + p[at:]}
				if at < len(p) {
					changed = append(changed, p[:at]+string([]byte{byte(b)})+p[at+1:], p[:at]+p[at+1:])
				}
				for _, c := range changed {
					if _, is := asModel(t, c, names...); is {
						right++
					} else {
						wrong++
					}
				}
			}
		}
	}
	if right < 1000 || wrong < 1000 {
		t.Errorf("%d right, %d wrong", right, wrong)
	}
}
