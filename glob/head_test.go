package glob

import (
	"strings"
	"testing"
)

// heads are patterns, what they begin with, and whether that is all of it.
var heads = []struct {
	pattern, head string
	all           bool
}{
	{"", "", true},
	{"a", "a", true},
	{"a.txt", "a.txt", true},
	{"a/b", "a/b", true},
	{"/", "/", true},
	{"]!-^", "]!-^", true},
	{"\x00\n", "\x00\n", true},
	{"été", "été", true},
	{"ж€😀", "ж€😀", true},
	{"\ufffd", "\ufffd", true},
	{"\U0010ffff", "\U0010ffff", true},
	{"?", "", false},
	{"*", "", false},
	{"**", "", false},
	{"***", "", false},
	{"[a]", "", false},
	{"[!a]", "", false},
	{"[a]bc", "", false},
	{"[\\a]", "", false},
	{"?a", "", false},
	{"*a", "", false},
	{"**a", "", false},
	{"a?", "a", false},
	{"a*", "a", false},
	{"a**", "a", false},
	{"a[b]", "a", false},
	{"a[b-b]", "a", false},
	{"a[!b]", "a", false},
	{"abc?def", "abc", false},
	{"abc*def", "abc", false},
	{"src/**/x", "src/", false},
	{"a/b/c*", "a/b/c", false},
	{"é?", "é", false},
	{"😀*", "😀", false},
	{"é[a]é", "é", false},
	{"a*b?c[d]", "a", false},
	{"ab*", "ab", false},
	{"ab?*", "ab", false},
	{"\\*", "*", true},
	{"\\?", "?", true},
	{"\\[a]", "[a]", true},
	{"\\\\", "\\", true},
	{"\\a", "a", true},
	{"\\é\\😀", "é😀", true},
	{"\\**", "*", false},
	{"\\*\\*", "**", true},
	{"\\\\*", "\\", false},
	{"\\?\\*\\[\\\\", "?*[\\", true},
	{"ab\\*c?d", "ab*c", false},
	{"ab\\*c\\?d", "ab*c?d", true},
	{"a\\[*", "a[", false},
	{"a\\b[c]\\d", "ab", false},
}

// P13.1: what a pattern begins with, and whether that is all of it.
func TestHead(t *testing.T) {
	for _, h := range heads {
		if head, all := glob(t, h.pattern).Head(); head != h.head || all != h.all {
			t.Errorf("%q: %q, %v, wanted %q, %v", h.pattern, head, all, h.head, h.all)
		}
	}
	for _, p := range hundreds() {
		asModel(t, p, "")
	}
}

// P13.2: what matches begins with Head; where that is all of it, only it matches.
func TestWhatMatchesBeginsWithHead(t *testing.T) {
	for _, h := range heads {
		g := glob(t, h.pattern)
		for _, behind := range allOf(3, "a", "b", "/", "*", "é", "c") {
			for _, name := range []string{behind, h.head + behind, behind + h.head, h.pattern + behind} {
				asHead(t, g, name, g.Match(name))
			}
		}
		if h.all && !g.Match(h.head) {
			t.Errorf("%q is all of %q, and doesn't match", h.head, h.pattern)
		}
	}
	asNames(t, strings.Repeat("x", 99)+"*", []string{strings.Repeat("x", 99), strings.Repeat("x", 1000)}, []string{strings.Repeat("x", 98)})
}

// P13.2: of names that are right UTF-8, their bytes begin with Head's.
func TestHeadsBytes(t *testing.T) {
	for _, s := range some {
		g := glob(t, s.pattern)
		head, _ := g.Head()
		for _, n := range s.yes {
			if strings.ToValidUTF8(n, "") == n && !strings.HasPrefix(n, head) {
				t.Errorf("%q matches %q, and doesn't begin with %q", n, s.pattern, head)
			}
		}
	}
}
