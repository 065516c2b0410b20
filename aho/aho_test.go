package aho

import (
	"slices"
	"strings"
	"testing"

	"inquest/api"
)

// some are words, a text, and where they end first in it.
var some = []struct {
	why   string
	words []string
	text  string
	ends  []int
}{
	{"the example", []string{"he", "she", "hers"}, "ushers", []int{4, 4, 6}},
	{"the example, in another order", []string{"hers", "she", "he"}, "ushers", []int{6, 4, 4}},
	{"no bytes", []string{"a"}, "", []int{-1}},
	{"it is all", []string{"a"}, "a", []int{1}},
	{"it is all", []string{"archive"}, "archive", []int{7}},
	{"it is none", []string{"a"}, "b", []int{-1}},
	{"at the beginning", []string{"one"}, "one two three", []int{3}},
	{"in the middle", []string{"two"}, "one two three", []int{7}},
	{"at the end", []string{"three"}, "one two three", []int{13}},
	{"all of them, in order", []string{"one", "two", "three"}, "one two three", []int{3, 7, 13}},
	{"all of them, in no order", []string{"three", "one", "two"}, "one two three", []int{13, 3, 7}},
	{"some of them", []string{"one", "four", "three"}, "one two three", []int{3, -1, 13}},
	{"none of them", []string{"four", "five", "six"}, "one two three", []int{-1, -1, -1}},
	{"a byte is missing at its end", []string{"three!"}, "one two three", []int{-1}},
	{"a byte is missing ahead", []string{"!one"}, "one two three", []int{-1}},
	{"a byte within is another", []string{"tvo"}, "one two three", []int{-1}},
	{"longer than the text", []string{"abc"}, "ab", []int{-1}},
	{"letters are taken as they are", []string{"One", "ONE", "one"}, "one One", []int{7, -1, 3}},
	{"letters are taken as they are", []string{"One", "ONE", "one"}, "ONE One", []int{7, 3, -1}},
	{"the first place counts", []string{"a"}, "banana", []int{2}},
	{"the first place counts", []string{"na"}, "banana", []int{4}},
	{"the first place counts", []string{"ana"}, "banana", []int{4}},
	{"the same word twice", []string{"b", "b"}, "abc", []int{2, 2}},
	{"the same word twice, and another between", []string{"b", "c", "b"}, "abc", []int{2, 3, 2}},
	{"the same word twice, and it isn't found", []string{"x", "b", "x"}, "abc", []int{-1, 2, -1}},
	{"the same word eight times", []string{"ab", "ab", "ab", "ab", "ab", "ab", "ab", "ab"}, "aabb", []int{3, 3, 3, 3, 3, 3, 3, 3}},
	{"the same word eight times, and it isn't found", []string{"ba", "ba", "ba", "ba", "ba", "ba", "ba", "ba"}, "aabb", []int{-1, -1, -1, -1, -1, -1, -1, -1}},
	{"within another", []string{"abcd", "bc"}, "abcd", []int{4, 3}},
	{"within another that isn't found", []string{"abcd", "bc"}, "abcx", []int{-1, 3}},
	{"within another, twice", []string{"abxabc", "ab"}, "abxabc", []int{6, 2}},
	{"within another, far within", []string{"aabcbb", "abcb", "bc", "c"}, "aabcbb", []int{6, 5, 4, 4}},
	{"begins another", []string{"abc", "ab", "a"}, "abc", []int{3, 2, 1}},
	{"begins another that isn't found", []string{"abc", "ab", "a"}, "abab", []int{-1, 2, 1}},
	{"ends another", []string{"abc", "bc", "c"}, "abc", []int{3, 3, 3}},
	{"ends another that isn't found", []string{"abc", "bc", "c"}, "xbc", []int{-1, 3, 3}},
	{"ends another that is begun twice", []string{"abac", "bac", "ac", "c"}, "abxabac", []int{7, 7, 7, 7}},
	{"begins and ends another", []string{"aba", "a", "ab", "ba"}, "aba", []int{3, 1, 2, 3}},
	{"over itself", []string{"aa"}, "aaaa", []int{2}},
	{"over itself", []string{"a", "aa", "aaa", "aaaa", "aaaaa"}, "aaaa", []int{1, 2, 3, 4, -1}},
	{"over itself, behind another byte", []string{"aaab"}, "aaaaab", []int{6}},
	{"over one another", []string{"aba", "bab"}, "ababab", []int{3, 4}},
	{"over one another, the other way", []string{"bab", "aba"}, "ababab", []int{4, 3}},
	{"over one another", []string{"abcd", "cdef", "efgh"}, "abcdefgh", []int{4, 6, 8}},
	{"the end of one begins another", []string{"abx", "bcx", "cd"}, "abcd", []int{-1, -1, 4}},
	{"begun anew behind a fault", []string{"abab", "abc"}, "ababac", []int{4, -1}},
	{"begun anew behind a fault", []string{"ababac"}, "abababac", []int{8}},
	{"begun anew behind a fault, twice", []string{"aabaaac"}, "aabaabaaac", []int{10}},
	{"begun anew with the byte that is the fault", []string{"aab", "xay"}, "aaxay", []int{-1, 5}},
	{"bytes 0", []string{"\x00"}, "ab\x00", []int{3}},
	{"bytes 0", []string{"\x00\x00", "\x00", "a\x00"}, "a\x00\x00", []int{3, 2, 2}},
	{"bytes 0", []string{"a", "a\x00", "\x00a"}, "a", []int{1, -1, -1}},
	{"bytes 255", []string{"\xff"}, "ab\xff", []int{3}},
	{"bytes 255", []string{"\xff\xff", "\xff", "\x00\xff", "\xff\x00"}, "\xff\x00\xff", []int{-1, 1, 3, 2}},
	{"bytes 127 and 128", []string{"\x7f", "\x80", "\x80\x7f"}, "\x7f\x80", []int{1, 2, -1}},
	{"parts of runes", []string{"\xa9", "é", "\xc3", "è"}, "été", []int{2, 2, 1, -1}},
	{"line ends and blanks", []string{"\r\n", "\t", "  "}, " a\r\n \t ", []int{4, 6, -1}},
	{"nothing stands for others", []string{"a*", "?", ".", "[a]"}, "ab", []int{-1, -1, -1, -1}},
	{"they stand for themselves", []string{"a*", "?", ".", "[a]"}, "a*?.[a]", []int{2, 3, 4, 7}},
	{"eight words", []string{"a", "b", "c", "d", "e", "f", "g", "h"}, "hgfedcb", []int{-1, 7, 6, 5, 4, 3, 2, 1}},
	{"eight words, each of which begins the next one", []string{"1", "12", "123", "1234", "12345", "123456", "1234567", "12345678"}, "12345671234567", []int{1, 2, 3, 4, 5, 6, 7, -1}},
	{"eight words, each of which ends the one ahead", []string{"12345678", "2345678", "345678", "45678", "5678", "678", "78", "8"}, "0345678", []int{-1, -1, 7, 7, 7, 7, 7, 7}},
}

// P14.1, P14.2: where words end first in a text, by hand, and by the model.
func TestSome(t *testing.T) {
	for _, c := range some {
		if want := ends(c.words, c.text); !slices.Equal(want, c.ends) {
			t.Errorf("%s: %q in %q: by the model %v, by hand %v", c.why, c.words, c.text, want, c.ends)
		}
		w := made(t, c.words...)
		s := w.Scan()
		if n := s.Put([]byte(c.text)); n != found(c.ends) {
			t.Errorf("%s: %q in %q: Put %d", c.why, c.words, c.text, n)
		}
		if l := s.First(); !slices.Equal(l, c.ends) {
			t.Errorf("%s: %q in %q: First %v, wanted %v", c.why, c.words, c.text, l, c.ends)
		}
		if s.All() != !slices.Contains(c.ends, -1) || s.Len() != len(c.text) {
			t.Errorf("%s: %q in %q: All %v, Len %d", c.why, c.words, c.text, s.All(), s.Len())
		}
		asModel(t, w, c.words, c.text)
	}
}

// P14.1: a scan that is new has seen nothing, whatever others of the same words have.
func TestNewScans(t *testing.T) {
	w := made(t, "he", "she", "hers")
	for range 3 {
		s := w.Scan()
		if l := s.First(); !slices.Equal(l, []int{-1, -1, -1}) || s.All() || s.Len() != 0 {
			t.Errorf("First %v, All %v, Len %d", l, s.All(), s.Len())
		}
		if n := s.Put([]byte("ushers")); n != 3 {
			t.Errorf("Put %d", n)
		}
	}
}

// P14.2: Put tells just the words that weren't found ahead, each of like words, too.
func TestPut(t *testing.T) {
	s := made(t, "ab", "b", "ab", "c", "zz").Scan()
	for i, c := range []struct {
		piece string
		want  int
	}{{"xyz", 0}, {"a", 0}, {"b", 3}, {"ab", 0}, {"", 0}, {"bbab", 0}, {"abc", 1}, {"abc", 0}, {"z", 0}, {"cz", 0}, {"zab", 1}, {"zzabc", 0}} {
		if n := s.Put([]byte(c.piece)); n != c.want {
			t.Errorf("%d: Put(%q) is %d, wanted %d", i, c.piece, n, c.want)
		}
	}
}

// P14.2: where a word ended first stays so, when it comes again, and the others are found yet.
func TestFirstStays(t *testing.T) {
	s := made(t, "a", "ba", "cba").Scan()
	for i, c := range []struct {
		piece string
		want  []int
	}{{"x", []int{-1, -1, -1}}, {"a", []int{2, -1, -1}}, {"a", []int{2, -1, -1}}, {"ba", []int{2, 5, -1}}, {"a", []int{2, 5, -1}}, {"baa", []int{2, 5, -1}},
		{"cb", []int{2, 5, -1}}, {"a", []int{2, 5, 12}}, {"cbacba", []int{2, 5, 12}}} {
		s.Put([]byte(c.piece))
		if l := s.First(); !slices.Equal(l, c.want) {
			t.Errorf("%d: behind %q: %v, wanted %v", i, c.piece, l, c.want)
		}
	}
}

// P14.2: All is false until the last word is found, and true from then on.
func TestAll(t *testing.T) {
	s := made(t, "b", "a", "cc", "a").Scan()
	for i, c := range []struct {
		piece string
		want  bool
	}{{"", false}, {"a", false}, {"a", false}, {"c", false}, {"b", false}, {"cbac", false}, {"c", true}, {"", true}, {"x", true}, {"cc", true}} {
		s.Put([]byte(c.piece))
		if s.All() != c.want {
			t.Errorf("%d: behind %q: %v", i, c.piece, s.All())
		}
	}
}

// P14.2: each of the words can be the last one that is found.
func TestLastOfAll(t *testing.T) {
	words := []string{"a", "b", "c", "d", "e", "f", "g", "h"}
	for last := range words {
		s := made(t, words...).Scan()
		for i, w := range words {
			if i != last && s.Put([]byte(w)) != 1 {
				t.Errorf("%q isn't found", w)
			}
			if s.All() {
				t.Errorf("all, without %q", words[last])
			}
		}
		if n := s.Put([]byte(words[last])); n != 1 || !s.All() {
			t.Errorf("Put %d, All %v, with %q", n, s.All(), words[last])
		}
	}
}

// P14.2: Len counts every byte, also those that belong to no word, and those behind the last one that was found.
func TestLen(t *testing.T) {
	s := made(t, "ab").Scan()
	want := 0
	for _, p := range []string{"", "x", "xyz", "a", "b", "", "ab", strings.Repeat("a", 1000), strings.Repeat("\x00", 70000), "b"} {
		s.Put([]byte(p))
		want += len(p)
		if s.Len() != want {
			t.Errorf("behind %.20q: %d, wanted %d", p, s.Len(), want)
		}
	}
}

// P14.1: of words that are right there is no error.
func TestRightWords(t *testing.T) {
	for _, c := range some {
		if w, e := New(asBytes(c.words)...); w == nil || e != api.OK {
			t.Errorf("%q: %v, %v", c.words, w, e)
		}
	}
}
