package glob

import "testing"

// held holds all the patterns against the model, with all the names; of both kinds, right and not, and matching and not, there must be some.
func held(t *testing.T, patterns, names []string) {
	t.Helper()
	right, matched := 0, 0
	for _, p := range patterns {
		n, is := asModel(t, p, names...)
		if is {
			right++
		}
		matched += n
	}
	t.Logf("%d patterns, %d right, %d of %d matched", len(patterns), right, matched, right*len(names))
	if right == 0 || matched == 0 || matched == right*len(names) {
		t.Errorf("of %d patterns %d were right; %d of %d matched", len(patterns), right, matched, right*len(names))
	}
}

// P13.1, P13.2: all patterns of a few runes of every kind.
func TestAllSmall(t *testing.T) {
	of := []string{"a", "b", "/", "?", "*", "[", "]", "!", "-", "\\"}
	held(t, allOf(4, of...), allOf(3, "a", "b", "/", "]", "-"))
	held(t, allOf(5, of...), allOf(2, "a", "/", "]"))
}

// P13.1, P13.2: all patterns of stars, ?, slashes and a rune.
func TestAllStars(t *testing.T) {
	held(t, allOf(6, "a", "/", "?", "*"), allOf(4, "a", "b", "/"))
}

// P13.1: all classes of a few runes, ended or not.
func TestAllClasses(t *testing.T) {
	names := []string{"", "a", "b", "c", "d", "/", ".", "0", "[", "]", "!", "\"", "-", "\\", "^", "é", "aa", "a]", "]]", "-]", "a/"}
	var patterns []string
	for _, p := range allOf(5, "a", "c", "]", "!", "-", "\\", "/") {
		patterns = append(patterns, "["+p, "["+p+"]")
	}
	held(t, patterns, names)
}

// P13.1: all patterns of a few parts that are right, one behind the other, around stars.
func TestAllParts(t *testing.T) {
	parts := []string{"a", "/", "?", "*", "**", "[a-b]", "[!a]", "\\*", "é"}
	held(t, allOf(4, parts...), allOf(3, "a", "b", "/", "*", "é"))
}

// P13.1: runes of 1 to 4 bytes, U+FFFD among them, in patterns and names, and names whose bytes aren't UTF-8.
func TestAllRunes(t *testing.T) {
	parts := []string{"a", "é", "€", "😀", "\ufffd", "?", "*", "[é-€]", "[!😀]", "[\ufffd]", "[€-\U0010ffff]"}
	names := allOf(2, "a", "é", "€", "😀", "\ufffd", "/", "\xff", "\x80", "\xe2\x82", "\xed\xa0\x80")
	held(t, allOf(3, parts...), names)
}
