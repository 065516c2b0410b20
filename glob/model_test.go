package glob

import (
	"slices"
	"testing"
	"unicode/utf8"

	"inquest/api"
)

// The model tells the chapter anew: a pattern is cut into pieces of its own text, classes first found whole and then cut, and a name matches, if it can be cut so that each piece has its part of it, which is tried in all ways.

// sign is a rune of a pattern, and whether a backslash stands ahead of it.
type sign struct {
	r    rune
	asIs bool
}

// is tells whether s is this rune, and not one that is taken as it is.
func (s sign) is(r rune) bool { return s == sign{r, false} }

// signsOf are the pattern's signs, if it doesn't end in the middle of one.
func signsOf(pattern string) ([]sign, bool) {
	var l []sign
	ahead := false
	for _, r := range pattern {
		if r == '\\' && !ahead {
			ahead = true
			continue
		}
		l = append(l, sign{r, ahead})
		ahead = false
	}
	return l, !ahead
}

// pieces are the pattern's, if it is right: what each begins and goes on with, a class without its brackets' end.
func pieces(pattern string) ([][]sign, bool) {
	l, is := signsOf(pattern)
	if !is || !utf8.ValidString(pattern) {
		return nil, false
	}
	var out [][]sign
	for len(l) > 0 {
		n := 1
		switch {
		case l[0].is('*') && len(l) > 1 && l[1].is('*'):
			n = 2
		case l[0].is('['):
			n = classEnd(l)
			if n < 0 || !rises(l[1:n]) {
				return nil, false
			}
		}
		out = append(out, l[:n])
		if l[0].is('[') {
			n++
		}
		l = l[n:]
	}
	return out, true
}

// classEnd is where the ] stands that ends the class with which l begins: the first one behind a rune that belongs to it; -1, if there is none.
func classEnd(l []sign) int {
	from := 2
	if len(l) > 1 && l[1].is('!') {
		from = 3
	}
	for at := from; at < len(l); at++ {
		if l[at].is(']') {
			return at
		}
	}
	return -1
}

// ranges are the parts of a class: runes from one to another one.
func ranges(class []sign) [][2]rune {
	if class[0].is('!') {
		class = class[1:]
	}
	var out [][2]rune
	for len(class) > 0 {
		if len(class) > 2 && class[1].is('-') {
			out = append(out, [2]rune{class[0].r, class[2].r})
			class = class[3:]
			continue
		}
		out = append(out, [2]rune{class[0].r, class[0].r})
		class = class[1:]
	}
	return out
}

// rises tells whether no part of the class is from a greater rune to a smaller one.
func rises(class []sign) bool {
	return !slices.ContainsFunc(ranges(class), func(p [2]rune) bool { return p[0] > p[1] })
}

// isOne tells whether r is the piece, which is no stars.
func isOne(piece []sign, r rune) bool {
	switch {
	case piece[0].is('?'):
		return r != '/'
	case piece[0].is('['):
		none := piece[1].is('!')
		for _, p := range ranges(piece[1:]) {
			if p[0] <= r && r <= p[1] {
				return r != '/' && !none
			}
		}
		return r != '/' && none
	}
	return r == piece[0].r
}

// fits tells whether the name is runes that the pieces are, by trying all ways.
func fits(l [][]sign, name []rune) bool {
	if len(l) == 0 {
		return len(name) == 0
	}
	if !l[0][0].is('*') {
		return len(name) > 0 && isOne(l[0], name[0]) && fits(l[1:], name[1:])
	}
	for n := range len(name) + 1 {
		if fits(l[1:], name[n:]) {
			return true
		}
		if n < len(name) && len(l[0]) == 1 && name[n] == '/' {
			return false
		}
	}
	return false
}

// headOf is what Head is to answer of the pieces.
func headOf(l [][]sign) (string, bool) {
	head := ""
	for _, p := range l {
		if p[0].is('?') || p[0].is('*') || p[0].is('[') {
			return head, false
		}
		head += string(p[0].r)
	}
	return head, true
}

// asModel holds the pattern against the model, and each of the names, which are short, against both; it tells how many matched, and whether the pattern is right.
func asModel(t *testing.T, pattern string, names ...string) (int, bool) {
	t.Helper()
	l, is := pieces(pattern)
	g, e := New(pattern)
	if len(pattern) > 100 {
		if g != nil || e != api.ErrLong {
			t.Errorf("New(%q): %v, %v, wanted ErrLong", pattern, g, e)
		}
		return 0, false
	}
	if !is {
		if g != nil || e != api.ErrForm {
			t.Errorf("New(%q): %v, %v, wanted ErrForm", pattern, g, e)
		}
		return 0, false
	}
	if g == nil || e != api.OK {
		t.Errorf("New(%q): %v, %v", pattern, g, e)
		return 0, false
	}
	head, all := g.Head()
	if want, wants := headOf(l); head != want || all != wants {
		t.Errorf("%q: head %q, %v, wanted %q, %v", pattern, head, all, want, wants)
	}
	many := 0
	for _, n := range names {
		got := g.Match(n)
		if got != (len(n) <= 1000 && fits(l, []rune(n))) {
			t.Errorf("%q of %q: %v", pattern, n, got)
		}
		asHead(t, g, n, got)
		if got {
			many++
		}
	}
	return many, true
}

// asHead holds whether the name matches against Head (P13.2): rune by rune, as a byte that isn't UTF-8 is U+FFFD.
func asHead(t *testing.T, g *Glob, name string, matches bool) {
	t.Helper()
	text, all := g.Head()
	head, runes := []rune(text), []rune(name)
	if begins := len(runes) >= len(head) && slices.Equal(runes[:len(head)], head); matches && !begins {
		t.Errorf("%q matches, and doesn't begin with %q", name, text)
	}
	if all && matches != slices.Equal(runes, head) {
		t.Errorf("%q matches: %v, though %q is all of it", name, matches, text)
	}
}

// allOf are all texts of at most so many of these pieces.
func allOf(most int, of ...string) []string {
	all := []string{""}
	last := all
	for range most {
		var next []string
		for _, s := range last {
			for _, p := range of {
				next = append(next, s+p)
			}
		}
		all = append(all, next...)
		last = next
	}
	return all
}
