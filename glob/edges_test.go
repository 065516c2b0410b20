package glob

import (
	"bytes"
	"strings"
	"testing"

	"inquest/api"
)

// hundreds are patterns of just 100 bytes that are right.
func hundreds() []string {
	return []string{
		strings.Repeat("a", 100),
		strings.Repeat("/", 100),
		strings.Repeat("?", 100),
		strings.Repeat("*", 100),
		strings.Repeat("*a", 50),
		strings.Repeat("a**b", 25),
		strings.Repeat("[a]b", 25),
		strings.Repeat("\\*", 50),
		strings.Repeat("é", 50),
		strings.Repeat("😀", 25),
		"a" + strings.Repeat("€", 33),
		"[" + strings.Repeat("a", 98) + "]",
		"[!" + strings.Repeat("b-z", 32) + "a]",
		"[]" + strings.Repeat("a", 97) + "]",
		strings.Repeat("\\😀", 20),
	}
}

// P13.1: a pattern has 100 bytes at the most: of bytes, not runes.
func TestLengthsOfPatterns(t *testing.T) {
	for _, p := range hundreds() {
		if len(p) != 100 {
			t.Fatalf("%q has %d bytes", p, len(p))
		}
		asModel(t, p, "", "a", "/", strings.Repeat("a", 100))
		for _, longer := range []string{p + "a", "a" + p, p + "*", "\\" + p, p + "\xff", p + p} {
			if g, e := New(longer); g != nil || e != api.ErrLong {
				t.Errorf("New(%q), of %d bytes: %v, %v", longer, len(longer), g, e)
			}
		}
		if g, e := New("[" + p[:99]); e == api.ErrLong || (g == nil) != (e != api.OK) {
			t.Errorf("New(%q): %v, %v", "["+p[:99], g, e)
		}
	}
	for many := range 200 {
		p := strings.Repeat("é", many)
		if g, e := New(p); (e == api.OK) != (2*many <= 100) || (g == nil) != (e == api.ErrLong) {
			t.Errorf("%d times é: %v, %v", many, g, e)
		}
	}
}

// P13.1: 100 runes that are themselves match just once, and a class of 98 has all of them.
func TestGreatestPatterns(t *testing.T) {
	a := strings.Repeat("a", 100)
	asNames(t, a, []string{a}, []string{"", a[1:], a + "a", a[1:] + "b", "b" + a[1:]})
	asNames(t, strings.Repeat("?", 100), []string{a, strings.Repeat("é", 100), strings.Repeat("😀", 100)}, []string{a[1:], a + "a", a[1:] + "/", strings.Repeat("é", 50)})
	asNames(t, strings.Repeat("é", 50), []string{strings.Repeat("é", 50)}, []string{strings.Repeat("é", 49), strings.Repeat("é", 51), strings.Repeat("é", 49) + "e"})
	asNames(t, strings.Repeat("\\*", 50), []string{strings.Repeat("*", 50)}, []string{strings.Repeat("*", 49), strings.Repeat("\\*", 50)})
	all := []byte("0")
	for b := byte('0'); b < 127; b++ {
		if b != '\\' && b != ']' {
			all = append(all, b)
		}
	}
	all = append(bytes.Repeat([]byte("0"), 97-len(all)), all...)
	class := "[" + string(all) + "]"
	for b := range byte(128) {
		in := strings.IndexByte(string(all), b) >= 0
		if g := glob(t, class); g.Match(string(rune(b))) != in {
			t.Errorf("%q of %q: %v", b, class, !in)
		}
		if g := glob(t, "[!"+class[1:]); g.Match(string(rune(b))) != (!in && b != '/') {
			t.Errorf("%q of none of %q: %v", b, class, in)
		}
	}
}

// asNames holds which names match and which don't.
func asNames(t *testing.T, pattern string, yes, noes []string) {
	t.Helper()
	g := glob(t, pattern)
	for _, n := range yes {
		if !g.Match(n) {
			t.Errorf("%q doesn't match %q", n, pattern)
		}
	}
	for _, n := range noes {
		if g.Match(n) {
			t.Errorf("%q matches %q", n, pattern)
		}
	}
}

// P13.1: a name that matches has 1000 bytes at the most: of bytes, not runes.
func TestLengthsOfNames(t *testing.T) {
	for _, c := range []struct{ pattern, r string }{
		{"*", "a"}, {"**", "a"}, {"**", "/"}, {"***", "a/"}, {"a*", "a"}, {"**a", "a"}, {"*a*", "a"}, {"a**a", "a"},
		{"*", "é"}, {"**", "é/€"}, {"*", "😀"}, {"*", "\xff"}, {"**", "\xff/"}, {"*", "\x00"}, {"?*", "é"}, {"[!b]**", "€"}, {"*", "\xe2\x82"},
	} {
		g := glob(t, c.pattern)
		for many := range 1100 {
			name := strings.Repeat(c.r, many)
			if want := len(name) <= 1000; len(name) > 900 && g.Match(name) != want {
				t.Errorf("%q of %d times %q: %v", c.pattern, many, c.r, !want)
			}
		}
	}
	asNames(t, "*", []string{strings.Repeat("é", 500), strings.Repeat("a", 1000), "a" + strings.Repeat("€", 333)}, []string{strings.Repeat("é", 500) + "a", strings.Repeat("a", 1001), "ab" + strings.Repeat("€", 333), strings.Repeat("😀", 251)})
}

// P13.1, R1: where stars stand, none, at the beginning, at the end, and in the middle of names of 1000 bytes.
func TestStarsInLongNames(t *testing.T) {
	x := strings.Repeat("x", 999)
	for at := range 1000 {
		name := x[:at] + "a" + x[at:]
		asNames(t, "*a*", []string{name}, nil)
		asNames(t, "**a", yesIf(at == 999, name), yesIf(at != 999, name))
		asNames(t, "a**", yesIf(at == 0, name), yesIf(at != 0, name))
		asNames(t, "*x*a*", yesIf(at > 0, name), yesIf(at == 0, name))
		name = x[:at] + "/" + x[at:]
		asNames(t, "*", nil, []string{name})
		asNames(t, "**", []string{name}, nil)
		asNames(t, "*/*", []string{name}, nil)
		asNames(t, "**x/*x", yesIf(at > 0 && at < 999, name), yesIf(at == 0 || at == 999, name))
	}
}

// yesIf is the name, if is, else no name.
func yesIf(is bool, name string) []string {
	if is {
		return []string{name}
	}
	return nil
}

// R1: patterns of 100 bytes with many stars against names of 1000 that don't match: each call ends.
func TestManyStarsEnd(t *testing.T) {
	names := []string{
		strings.Repeat("a", 1000), strings.Repeat("a", 999) + "b", strings.Repeat("ab", 500), strings.Repeat("a/", 500),
		strings.Repeat("a", 500) + "/" + strings.Repeat("a", 499), strings.Repeat("/", 1000), strings.Repeat("é", 500), strings.Repeat("\xff", 1000),
	}
	for _, p := range []string{"*a", "**a", "*a**a", "*?", "**?", "*", "**", "*[a]", "**[!b]", "a*", "?**", "*a/**", "**/*", "*\\a", "*é"} {
		for _, end := range []string{"c", "/c", "[c]", "*c", "**c", "c**"} {
			pattern := strings.Repeat(p, (100-len(end))/len(p)) + end
			asNames(t, pattern, nil, names)
		}
		asNames(t, strings.Repeat(p, 100/len(p)), nil, []string{names[0] + "a", names[7] + "\xff"})
	}
}

// P13.1: what many stars match in long names, known by counting.
func TestManyStarsMatch(t *testing.T) {
	stars := strings.Repeat("*a", 50)
	for many := 40; many < 60; many++ {
		asNames(t, stars, yesIf(many >= 50, strings.Repeat("a", many)), yesIf(many < 50, strings.Repeat("a", many)))
		asNames(t, stars, yesIf(many >= 50, strings.Repeat("bba", many)), yesIf(many < 50, strings.Repeat("bba", many)))
	}
	slashes := strings.Repeat("*/", 50)
	for many := 40; many < 60; many++ {
		asNames(t, slashes, yesIf(many == 50, strings.Repeat("abc/", many)), yesIf(many != 50, strings.Repeat("abc/", many)))
	}
	deep := strings.Repeat("**/", 33)
	for many := 20; many < 60; many++ {
		asNames(t, deep, yesIf(many >= 33, strings.Repeat("abc/", many)), yesIf(many < 33, strings.Repeat("abc/", many)))
	}
}
