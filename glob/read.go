package glob

import "unicode/utf8"

// The runes of a pattern that aren't themselves: those of the first row anywhere, the others in a class alone.
const (
	anyRune, manyRunes, classBegins, asItIs = '?', '*', '[', '\\'
	noneOf, upTo, classEnds                 = '!', '-', ']'
)

// partsOf are the parts of the pattern, if it is right.
func partsOf(pattern string) ([]part, bool) {
	if !utf8.ValidString(pattern) {
		return nil, false
	}
	var parts []part
	for left := []rune(pattern); len(left) > 0; {
		p, n := partOf(left)
		if n == 0 {
			return nil, false
		}
		parts = append(parts, p)
		left = left[n:]
	}
	return parts, true
}

// partOf is the part that these runes begin with, and how many of them it has: 0, if it isn't right.
func partOf(l []rune) (part, int) {
	switch l[0] {
	case anyRune:
		return one{}, 1
	case manyRunes:
		if begins(l[1:], manyRunes) {
			return stars{}, 2
		}
		return star{}, 1
	case classBegins:
		return classOf(l)
	}
	r, n := runeOf(l)
	return itself(r), n
}

// classOf is the class that these runes begin with, and how many of them it has: 0, if it isn't right.
func classOf(l []rune) (part, int) {
	c := class{not: begins(l[1:], noneOf)}
	at := 1
	if c.not {
		at++
	}
	for len(c.spans) == 0 || !begins(l[at:], classEnds) {
		s, n := spanOf(l[at:])
		if n == 0 {
			return nil, 0
		}
		c.spans = append(c.spans, s)
		at += n
	}
	return c, at + 1
}

// spanOf is the part of a class that these runes begin with, and how many of them it has: 0, if it isn't right.
func spanOf(l []rune) (span, int) {
	from, n := runeOf(l)
	if n == 0 || !begins(l[n:], upTo) || begins(l[n+1:], classEnds) {
		return span{from, from}, n
	}
	to, more := runeOf(l[n+1:])
	if more == 0 || to < from {
		return span{}, 0
	}
	return span{from, to}, n + 1 + more
}

// runeOf is the rune that these begin with, behind a backslash the one that is there, and how many of them that takes: 0, if there is none.
func runeOf(l []rune) (rune, int) {
	switch {
	case len(l) == 0:
		return 0, 0
	case l[0] != asItIs:
		return l[0], 1
	case len(l) == 1:
		return 0, 0
	}
	return l[1], 2
}

// begins tells whether r is the first of these runes.
func begins(l []rune, r rune) bool { return len(l) > 0 && l[0] == r }
