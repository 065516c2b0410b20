package glob

import (
	"slices"
	"strings"
)

// slash is what no part is but two stars, and the slash itself.
const slash = '/'

// part is what a pattern is made of, one behind the other.
type part interface {
	// has tells whether the rune may be one of the part's.
	has(r rune) bool
}

// itself is a rune that only the same one is.
type itself rune

func (p itself) has(r rune) bool { return r == rune(p) }

// one is any rune but a slash.
type one struct{}

func (one) has(r rune) bool { return r != slash }

// star is any runes but slashes, also none.
type star struct{}

func (star) has(r rune) bool { return r != slash }

// stars are any runes, also none.
type stars struct{}

func (stars) has(rune) bool { return true }

// class is one rune but a slash: of these, or none of these.
type class struct {
	not   bool
	spans []span
}

func (p class) has(r rune) bool {
	in := slices.ContainsFunc(p.spans, func(s span) bool { return s.from <= r && r <= s.to })
	return r != slash && in != p.not
}

// span are the runes from one to another one.
type span struct{ from, to rune }

// match tells whether the name is runes that the parts are, one behind the other.
func match(parts []part, name []rune) bool {
	// All ends that the parts so far may have are kept together, so that many stars take no more steps than other parts do.
	ends := make([]bool, len(name)+1)
	ends[0] = true
	for _, p := range parts {
		goOn(ends, p, name)
	}
	return ends[len(name)]
}

// goOn turns the places where p may begin in the name into those where it may end.
func goOn(ends []bool, p part, name []rune) {
	switch p.(type) {
	case star, stars:
		for i, r := range name {
			ends[i+1] = ends[i+1] || ends[i] && p.has(r)
		}
	default:
		// Just one rune is taken, so this goes from the end on: what is ahead is still where p begins.
		for i := len(name) - 1; i >= 0; i-- {
			ends[i+1] = ends[i] && p.has(name[i])
		}
		ends[0] = false
	}
}

// head are the runes ahead of the first part that isn't just itself, and whether there is no such part.
func head(parts []part) (string, bool) {
	var b strings.Builder
	for _, p := range parts {
		switch r := p.(type) {
		case itself:
			b.WriteRune(rune(r))
		default:
			return b.String(), false
		}
	}
	return b.String(), true
}
