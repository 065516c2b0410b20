package glob

import (
	"strings"
	"testing"

	"inquest/api"
)

// quoted are names, and what they are quoted as.
var quoted = []struct{ name, pattern string }{
	{"", ""},
	{"a", "a"},
	{"a.txt", "a.txt"},
	{"a/b", "a/b"},
	{"?", "\\?"},
	{"*", "\\*"},
	{"[", "\\["},
	{"\\", "\\\\"},
	{"]", "]"},
	{"!", "!"},
	{"-", "-"},
	{"/", "/"},
	{"^", "^"},
	{"{a,b}", "{a,b}"},
	{"[]", "\\[]"},
	{"[a-b]", "\\[a-b]"},
	{"[!a]", "\\[!a]"},
	{"a*[b]", "a\\*\\[b]"},
	{"**", "\\*\\*"},
	{"???", "\\?\\?\\?"},
	{"\\*", "\\\\\\*"},
	{"\\\\", "\\\\\\\\"},
	{"*\\", "\\*\\\\"},
	{"a\\b/c?d*e[f]!-", "a\\\\b/c\\?d\\*e\\[f]!-"},
	{"é*€?😀[", "é\\*€\\?😀\\["},
	{"\x00\n\x7f", "\x00\n\x7f"},
	{"\u015b\u015c\u012a\u013f", "\u015b\u015c\u012a\u013f"}, // their numbers' lowest bytes are those of [ \ * ?
}

// P13.1: what names are quoted as.
func TestQuote(t *testing.T) {
	for _, q := range quoted {
		if got := Quote(q.name); got != q.pattern {
			t.Errorf("Quote(%q): %q, wanted %q", q.name, got, q.pattern)
		}
		onlyItself(t, q.name, "", "a", "a.txt", "*", "[", "a/b")
	}
}

// onlyItself holds that what the name is quoted as is matched by the name, if that is a pattern that may be, and by none of the others, nor any that is nearly the same.
func onlyItself(t *testing.T, name string, others ...string) {
	t.Helper()
	pattern := Quote(name)
	g, e := New(pattern)
	if len(pattern) > 100 {
		if e != api.ErrLong {
			t.Errorf("%q: %v", pattern, e)
		}
		return
	}
	if e != api.OK || !g.Match(name) {
		t.Errorf("Quote(%q): %q, %v, doesn't match it", name, pattern, e)
		return
	}
	if head, all := g.Head(); head != name || !all {
		t.Errorf("%q: head %q, %v", pattern, head, all)
	}
	for at := range len(name) + 1 {
		for _, x := range []string{"a", "\\", "*", "\xff"} {
			others = append(others, name[:at]+x+name[at:])
			if at < len(name) {
				others = append(others, name[:at]+x+name[at+1:], name[:at]+name[at+1:])
			}
		}
	}
	for _, o := range append(others, pattern) {
		if o != name && g.Match(o) {
			t.Errorf("%q matches %q of %q", o, pattern, name)
		}
	}
}

// P13.1: all names of a few runes that a pattern could take for something else.
func TestQuoteAll(t *testing.T) {
	of := []string{"a", "?", "*", "[", "]", "!", "-", "/", "\\"}
	names := allOf(2, of...)
	for _, n := range names {
		onlyItself(t, n, names...)
	}
	for _, n := range allOf(4, of...) {
		onlyItself(t, n)
	}
}

// P13.1: of each rune, alone and between others, only it matches.
func TestQuoteEachRune(t *testing.T) {
	for r := rune(0); r < 0x3100; r++ {
		onlyItself(t, string(r))
	}
	for _, r := range []rune{0xd7ff, 0xe000, 0xfffc, 0xfffe, 0xffff, 0x10000, 0x1f600, 0x10ffff} {
		onlyItself(t, "a"+string(r)+"*")
	}
}

// P13.1: what a name that isn't right UTF-8 is quoted as is no pattern; a backslash stands ahead all the same.
func TestQuoteWrongNames(t *testing.T) {
	for name, pattern := range map[string]string{"\xff": "\xff", "\xff*": "\xff\\*", "a\x80?": "a\x80\\?", "\\\xc3": "\\\\\xc3", "[\xe2\x82": "\\[\xe2\x82", "\xdc\xaa\xbf": "\xdc\xaa\xbf", "\xff\xdb\xff": "\xff\xdb\xff"} {
		if got := Quote(name); got != pattern {
			t.Errorf("Quote(%q): %q, wanted %q", name, got, pattern)
		}
		is(t, "not right UTF-8", Quote(name), api.ErrForm)
	}
}

// P13.1: names of any length are quoted; those that make more than 100 bytes make no pattern.
func TestQuoteLongNames(t *testing.T) {
	for many := range 110 {
		for _, r := range []string{"a", "*", "\\", "[]", "é", "😀"} {
			name := strings.Repeat(r, many)
			if got, want := Quote(name), strings.Repeat(Quote(r), many); got != want {
				t.Errorf("Quote(%q): %q", name, got)
			}
			onlyItself(t, name)
		}
	}
	for _, r := range []string{"a", "*", "\\", "\xff", "€?"} {
		name := strings.Repeat(r, 1<<20)
		if got, want := Quote(name), strings.Repeat(Quote(r), 1<<20); got != want {
			t.Errorf("%d times %q: %d bytes", 1<<20, r, len(got))
		}
	}
}
