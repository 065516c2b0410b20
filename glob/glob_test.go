package glob

import (
	"slices"
	"strings"
	"testing"

	"inquest/api"
)

// glob is the pattern, which is right.
func glob(t *testing.T, pattern string) *Glob {
	t.Helper()
	g, e := New(pattern)
	if g == nil || e != api.OK {
		t.Fatalf("New(%q): %v, %v", pattern, g, e)
	}
	return g
}

// some are patterns, names that match, and names that don't.
var some = []struct {
	pattern   string
	yes, noes []string
}{
	// The chapter's examples.
	{"*.txt", []string{"a.txt", ".txt", "a.b.txt", ".txt.txt"}, []string{"a/b.txt", "/.txt", "a.txt/", "a.tx", "a.txtx", "txt", ""}},
	{"**.txt", []string{"a.txt", "a/b.txt", ".txt", "/.txt", "a/b/c.txt", "a.txt/b.txt"}, []string{"a.txt/", "a.txt/b", "txt", ""}},

	// Runes as they are.
	{"", []string{""}, []string{"a", "/", " ", "\x00", "\xff"}},
	{"a", []string{"a"}, []string{"", "b", "A", "aa", "ab", "ba", "\xff"}},
	{"a.txt", []string{"a.txt"}, []string{"a-txt", "a.tx", ".txt", "a.txt ", "aatxt", "A.TXT"}},
	{"/", []string{"/"}, []string{"", "//", "a", "\\"}},
	{"a/b", []string{"a/b"}, []string{"a", "ab", "a//b", "a\\b", "a/b/"}},
	{"]!-^{},|+()$#", []string{"]!-^{},|+()$#"}, []string{"", "]", "]!-^{},|+()$"}},
	{"\x00\n\x7f", []string{"\x00\n\x7f"}, []string{"", "\x00\n", "\x00", "\n"}},
	{"é", []string{"é"}, []string{"e", "É", "\u00ea", "e\u0301", "\xc3", "\xe9"}},
	{"ж€😀", []string{"ж€😀"}, []string{"ж€", "€😀", "ж😀", "ж€\xf0\x9f\x98", "ж€\xf0\x9f\x98\x81"}},
	{"\ufffd", []string{"\ufffd", "\xff", "\x80", "\xc3"}, []string{"", "a", "\xff\xff", "\ufffc", "\xc3\xa9"}},

	// One rune.
	{"?", []string{"a", "?", "*", "\\", "\x00", "\n", " ", "é", "€", "😀", "\U0010ffff", "\xff", "\x80"}, []string{"", "/", "ab", "a/", "/a", "\xff\xff", "\xe2\x82"}},
	{"??", []string{"ab", "é€", "\xe2\x82", "\xc3\xc3", "😀a"}, []string{"", "a", "é", "€", "😀", "abc", "a/", "/a", "//"}},
	{"a?c", []string{"abc", "aéc", "a?c", "acc"}, []string{"a/c", "ac", "abbc", "ab", "bc", "xbc", "abx"}},
	{"?a", []string{"aa", "ba", "😀a"}, []string{"a", "/a", "ab", "bba", "\xff\xffa"}},
	{"a?", []string{"aa", "ab", "a\xff"}, []string{"a", "a/", "abb", "ba"}},
	{"?/?", []string{"a/b", "€/😀"}, []string{"a/", "/b", "/", "///", "ab", "a/b/"}},

	// One star.
	{"*", []string{"", "a", "abc", "*", "\x00", "a\nb", "é€😀", "\xff\xfe", strings.Repeat("x", 1000)}, []string{"/", "a/b", "/a", "a/", "a/b/c"}},
	{"*a", []string{"a", "aa", "ba", "bbba", "aaaa", "\xffa", "abca"}, []string{"", "b", "ab", "/a", "b/a", "a/a"}},
	{"a*", []string{"a", "aa", "ab", "abbb", "a*", "a\xff"}, []string{"", "b", "ba", "a/", "a/b", "ab/"}},
	{"a*c", []string{"ac", "abc", "abbc", "acc", "accc", "acbc", "a\xffc"}, []string{"", "a", "c", "ab", "bc", "ab/c", "a/c", "acb", "xac"}},
	{"*/*", []string{"/", "a/", "/b", "a/b", "aa/bb"}, []string{"", "a", "a/b/c", "//"}},
	{"*a*b*", []string{"ab", "xaxbx", "aab", "abb", "ba.b", "aabb"}, []string{"", "a", "b", "ba", "a/b", "/ab", "ab/"}},
	{"*?", []string{"a", "ab", "abc", "\xff"}, []string{"", "/", "a/", "/a"}},
	{"?*", []string{"a", "ab", "abc", "\xff"}, []string{"", "/", "a/", "/a"}},
	{"*?*", []string{"a", "ab", "é"}, []string{"", "/", "a/b"}},
	{"src/*/x", []string{"src/a/x", "src//x", "src/abc/x"}, []string{"src/x", "src/a/b/x", "src/a/", "src/a/xx"}},
	{"*.*", []string{".", "a.b", "..", "a.", ".b"}, []string{"", "a", "a/.b", "a./b"}},

	// Two stars.
	{"**", []string{"", "a", "/", "//", "a/b/c", "*", "\x00\n", "é/€", "\xff/\xff", strings.Repeat("/x", 500)}, []string{strings.Repeat("x", 1001)}},
	{"**a", []string{"a", "/a", "b/a", "a/a", "aaa"}, []string{"", "/", "ab", "a/"}},
	{"a**", []string{"a", "a/", "a/b/c", "aa"}, []string{"", "b", "/a", "ba"}},
	{"a**c", []string{"ac", "abc", "ab/c", "a/c", "a//c", "ac/c", "acc"}, []string{"", "a", "c", "ab/", "xa/c", "a/cx"}},
	{"src/**/x", []string{"src/a/x", "src/a/b/x", "src//x", "src///x"}, []string{"src/x", "srcx", "src/a/bx", "src/a/x/"}},
	{"**/x", []string{"/x", "a/x", "a/b/x"}, []string{"", "x", "ax", "/", "a/xx"}},
	{"**a*b", []string{"ab", "a/ab", "a/b/acb", "/ab", "aab", "a/aab"}, []string{"a/b", "a/b/", "ba", "a/cb", "ab/"}},
	{"*a**b", []string{"ab", "a/b", "xa/b/b", "aa/xb"}, []string{"/ab", "x/ab", "ab/", "ba"}},
	{"**?", []string{"a", "/a", "a/b"}, []string{"", "/", "a/"}},
	{"?**", []string{"a", "a/", "a/b"}, []string{"", "/", "/a"}},

	// Three stars and more: two, and then what is behind them.
	{"***", []string{"", "a", "/", "a/b/c", "//"}, []string{strings.Repeat("/", 1001)}},
	{"****", []string{"", "a", "/", "a/b/c"}, []string{strings.Repeat("/", 1001)}},
	{"a***b", []string{"ab", "a/b", "a/x/b", "a//b"}, []string{"", "a", "b", "a/", "/b"}},
	{"a*****b", []string{"ab", "a/b", "a/x/b", "a//b"}, []string{"", "a", "b", "a/", "/b"}},
	{"*/***", []string{"/", "a/", "a/b/c"}, []string{"", "a"}},

	// Classes.
	{"[a]", []string{"a"}, []string{"", "b", "[", "]", "/", "[a]", "aa"}},
	{"[abc]", []string{"a", "b", "c"}, []string{"", "d", "ab", "`", "/"}},
	{"[cab]", []string{"a", "b", "c"}, []string{"", "d", "/"}},
	{"[aaa]", []string{"a"}, []string{"", "b", "aaa"}},
	{"[a-c]x", []string{"ax", "bx", "cx"}, []string{"x", "dx", "`x", "-x", "/x", "a", "abx"}},
	{"[a-cx-z]", []string{"a", "b", "c", "x", "y", "z"}, []string{"d", "w", "{", "-", "/"}},
	{"[x-za-c]", []string{"a", "b", "c", "x", "y", "z"}, []string{"d", "w", "{", "-", "/"}},
	{"[a-a]", []string{"a"}, []string{"", "b", "`", "-", "/"}},
	{"[a-cb-d]", []string{"a", "b", "c", "d"}, []string{"e", "-"}},
	{"[ac-e]", []string{"a", "c", "d", "e"}, []string{"b", "f", "-"}},
	{"[a-ce]", []string{"a", "b", "c", "e"}, []string{"d", "f", "-"}},
	{"x[a-c]", []string{"xa", "xb", "xc"}, []string{"x", "xd", "x-", "x/"}},
	{"[a][b]", []string{"ab"}, []string{"a", "b", "ba", "aa", "bb"}},
	{"[*?[]", []string{"*", "?", "["}, []string{"a", "", "]", "**"}},
	{"[a^]", []string{"a", "^"}, []string{"b", ""}},
	{"[^a]", []string{"a", "^"}, []string{"b", ""}},
	{"[\x00-\x1f]", []string{"\x00", "\n", "\x1f"}, []string{" ", "\x7f", ""}},
	{"[é-ü]", []string{"é", "ê", "ü"}, []string{"è", "ý", "e", "\xc3", "\xa9"}},
	{"[€😀]", []string{"€", "😀"}, []string{"\u20ab", "\u20ad", "\xe2", "\x82", "\xf0"}},
	{"[\u20ab-\U0001f601]", []string{"€", "😀", "\ufffd", "\xff", "\u20ab", "\U0001f601"}, []string{"\u20aa", "\U0001f602", "a"}},
	{"[\ufffd]", []string{"\ufffd", "\xff", "\x80"}, []string{"", "a", "\ufffc", "\xff\xff"}},
	{"[a-\U0010ffff]", []string{"a", "\x7f", "é", "\xff", "\U0010ffff"}, []string{"", "`", "/"}},

	// Classes with !.
	{"[!a]", []string{"b", "!", "A", "\x00", "é", "\xff", "["}, []string{"", "a", "/", "ba"}},
	{"[!a-c]x", []string{"dx", "!x", "-x", "`x", "\xffx"}, []string{"ax", "bx", "cx", "/x", "x"}},
	{"[!a-cx]", []string{"d", "w", "y", "-"}, []string{"a", "b", "c", "x", "/"}},
	{"[!!]", []string{"a", "]"}, []string{"!", "/"}},
	{"[a!]", []string{"a", "!"}, []string{"b"}},
	{"[!a!]", []string{"b"}, []string{"a", "!"}},
	{"[!]]", []string{"a", "[", "!"}, []string{"]", "/", "a]"}},
	{"[!]a]", []string{"b", "[", "!"}, []string{"]", "a", "/"}},
	{"[!-]", []string{"a", "!"}, []string{"-", "/"}},
	{"[!a-]", []string{"b", "!"}, []string{"a", "-", "/"}},
	{"[!-a]", []string{"b", "!"}, []string{"a", "-", "/"}},
	{"[!\ufffd]", []string{"a"}, []string{"\ufffd", "\xff"}},
	{"[!\U0010ffff]", []string{"a", "\xff"}, []string{"\U0010ffff", "/"}},
	{"[\\!a]", []string{"!", "a"}, []string{"b", "\\"}},
	{"[!\\!]", []string{"a", "\\"}, []string{"!", "/"}},

	// A slash is in no class.
	{"[/]", nil, []string{"/", "", "a", "[/]"}},
	{"[a/]", []string{"a"}, []string{"/", "a/"}},
	{"[\\/]", nil, []string{"/", "\\", ""}},
	{"[.-0]", []string{".", "0"}, []string{"/", "-", "1"}},
	{"[/-/]", nil, []string{"/", "-"}},
	{"[!/]", []string{"a", "!", "\xff"}, []string{"/", ""}},
	{"[!.-0]", []string{"-", "1"}, []string{".", "/", "0"}},
	{"[\x00-\U0010ffff]", []string{"a", ".", "0", "\x00", "\xff"}, []string{"/", "", "ab"}},
	{"[!\x00-\U0010ffff]", nil, []string{"a", "/", "", "\xff"}},
	{"a[/]b", nil, []string{"a/b", "ab"}},

	// A - at a class's beginning, and ahead of the ] that ends it.
	{"[-]", []string{"-"}, []string{"", "a", "]", "["}},
	{"[-a]", []string{"-", "a"}, []string{"b", "`"}},
	{"[a-]", []string{"-", "a"}, []string{"b", "]"}},
	{"[a-]]", []string{"a]", "-]"}, []string{"a", "-", "]", "b]", "^"}},
	{"[A-]]", []string{"A]", "-]"}, []string{"A", "]", "B", "B]", "Z"}},
	{"[-a-]", []string{"-", "a"}, []string{"b", "]", "."}},
	{"[--]", []string{"-"}, []string{"", "--", ".", "]"}},
	{"[---]", []string{"-"}, []string{"", "--", ".", ","}},
	{"[--a]", []string{"-", ".", "0", "Z", "a"}, []string{",", "b", "/"}},
	{"[+--]", []string{"+", ",", "-"}, []string{"*", "."}},
	{"[a-c-]", []string{"a", "b", "c", "-"}, []string{"d", "]"}},
	{"[a-c-e]", []string{"a", "b", "c", "-", "e"}, []string{"d", "f"}},
	{"[-c-e]", []string{"-", "c", "d", "e"}, []string{".", "b", "f"}},
	{"[a-c--]", []string{"a", "b", "c", "-"}, []string{"d", ".", "]"}},
	{"[a-c--0]", []string{"a", "b", "c", "-", ".", "0"}, []string{",", "1", "d", "/"}},
	{"[!--0]", []string{",", "1", "a"}, []string{"-", ".", "0", "/"}},
	{"[a\\-c]", []string{"a", "-", "c"}, []string{"b", "\\"}},

	// ] as a class's first part.
	{"[]]", []string{"]"}, []string{"", "[", "[]", "]]"}},
	{"[]a]", []string{"]", "a"}, []string{"", "b", "[", "]a]", "a]"}},
	{"[]]]", []string{"]]"}, []string{"]", "]]]"}},
	{"[]-]", []string{"]", "-"}, []string{"^", ",", "["}},
	{"[]-a]", []string{"]", "^", "_", "`", "a"}, []string{"-", "\\", "b"}},
	{"[]-]]", []string{"]]", "-]"}, []string{"]", "-"}},
	{"[][]", []string{"]", "["}, []string{"", "[]", "\\"}},
	{"[!]-a]", []string{"\\", "b", "-"}, []string{"]", "^", "a", "/"}},

	// Backslashes outside a class.
	{"\\*", []string{"*"}, []string{"", "a", "\\*", "\\", "\\a"}},
	{"\\?", []string{"?"}, []string{"", "a", "\\?"}},
	{"\\[a]", []string{"[a]"}, []string{"a", "\\a", "["}},
	{"\\\\", []string{"\\"}, []string{"", "\\\\", "/"}},
	{"\\a", []string{"a"}, []string{"\\a", "", "\a"}},
	{"\\n", []string{"n"}, []string{"\n", "\\n"}},
	{"\\/", []string{"/"}, []string{"", "\\/", "\\"}},
	{"\\é\\€\\😀", []string{"é€😀"}, []string{"\\é\\€\\😀", "é€"}},
	{"\\]\\!\\-", []string{"]!-"}, []string{"\\]\\!\\-"}},
	{"\\**", []string{"*", "*a", "**"}, []string{"", "a", "*/", "a*"}},
	{"*\\*", []string{"*", "a*", "**"}, []string{"", "a", "/*", "*a", "*/"}},
	{"\\*\\*", []string{"**"}, []string{"", "*", "a", "*a"}},
	{"\\***", []string{"*", "*/", "*a/b"}, []string{"", "a", "/*"}},
	{"**\\*", []string{"*", "a/*"}, []string{"", "*/"}},
	{"\\\\*", []string{"\\", "\\a", "\\*"}, []string{"", "*", "a", "\\/"}},
	{"\\\\\\*", []string{"\\*"}, []string{"\\", "*", "\\\\*", "\\a"}},
	{"\\[a-c", []string{"[a-c"}, []string{"a", "["}},
	{"[a]\\]", []string{"a]"}, []string{"a", "]"}},

	// Backslashes within a class.
	{"[\\]]", []string{"]"}, []string{"", "\\", "\\]"}},
	{"[\\]a]", []string{"]", "a"}, []string{"\\", "b"}},
	{"[a\\]]", []string{"]", "a"}, []string{"\\", "a]"}},
	{"[a\\]b]", []string{"]", "a", "b"}, []string{"\\", "ab]"}},
	{"[\\\\]", []string{"\\"}, []string{"", "]", "\\\\"}},
	{"[\\\\a]", []string{"\\", "a"}, []string{"]"}},
	{"[\\a]", []string{"a"}, []string{"\\"}},
	{"[\\-a]", []string{"-", "a"}, []string{"\\", "`"}},
	{"[a\\-]", []string{"-", "a"}, []string{"\\"}},
	{"[\\a-\\c]", []string{"a", "b", "c"}, []string{"\\", "-", "d"}},
	{"[a-\\c]", []string{"a", "b", "c"}, []string{"\\", "-", "d"}},
	{"[\\a-c]", []string{"a", "b", "c"}, []string{"\\", "-", "d"}},
	{"[A-\\]]", []string{"A", "Z", "[", "\\", "]"}, []string{"^", "-", "@"}},
	{"[\\]-a]", []string{"]", "^", "a"}, []string{"\\", "-", "b"}},
	{"[\\--0]", []string{"-", ".", "0"}, []string{",", "\\", "1", "/"}},
	{"[+-\\-]", []string{"+", ",", "-"}, []string{"*", ".", "\\"}},
	{"[\\*\\?\\[]", []string{"*", "?", "["}, []string{"\\", "a"}},
	{"[\\é-\\€]", []string{"é", "€", "\u0fff"}, []string{"\\", "\u20ad", "è"}},
	{"[!\\]]", []string{"a", "\\"}, []string{"]", "/"}},

	// Several together.
	{"[a-c]*.[!t]??", []string{"a.xyz", "bb.cpp", "c.t.abc"}, []string{"d.xyz", "a.txt", "a.xy", "a/b.xyz"}},
	{"**/[a-z]*.\\[?\\]", []string{"/a.[x]", "p/q/abc.[1]"}, []string{"a.[x]", "p/A.[x]", "p/a.x", "p/a/.[x]"}},
	{"?[?]?", []string{"a?b"}, []string{"aab", "??", "/?/"}},
	{"[*]*[*]", []string{"**", "*a*"}, []string{"*", "*/*", "a*"}},
}

// P13.1, P13.2: patterns of each kind of part, and of several, and names that match and that don't.
func TestMatch(t *testing.T) {
	for _, s := range some {
		g := glob(t, s.pattern)
		for _, n := range s.yes {
			if !g.Match(n) {
				t.Errorf("%q doesn't match %q", n, s.pattern)
			}
			asHead(t, g, n, true)
		}
		for _, n := range s.noes {
			if g.Match(n) {
				t.Errorf("%q matches %q", n, s.pattern)
			}
			asHead(t, g, n, false)
		}
		asModel(t, s.pattern, append(slices.Clone(s.yes), s.noes...)...)
	}
}
