package glob

import (
	"math/rand"
	"regexp"
	"strconv"
	"strings"
	"testing"
)

// A piece is made at random: as a pattern has it, as the library's regexp has it, and a text that it may be.
type piece struct{ glob, regexp, name string }

// runes are those that pieces and names are made of.
var runes = []rune("aabbc/*?[]!-\\.^é€😀\x00\n\ufffd")

// point is r, as regexp has it.
func point(r rune) string { return `\x{` + strconv.FormatInt(int64(r), 16) + `}` }

// runeFrom is any of the runes.
func runeFrom(x *rand.Rand) rune { return runes[x.Intn(len(runes))] }

// textFrom is a text of a few runes, in which there is no slash, if that is asked.
func textFrom(x *rand.Rand, slashes bool) string {
	text := ""
	for range x.Intn(4) {
		if r := runeFrom(x); slashes || r != '/' {
			text += string(r)
		}
	}
	return text
}

// pieceFrom is any piece.
func pieceFrom(x *rand.Rand) piece {
	r := runeFrom(x)
	switch x.Intn(9) {
	case 0:
		return piece{"?", "[^/]", strings.ReplaceAll(string(r), "/", "x")}
	case 1:
		return piece{"*", "[^/]*", textFrom(x, false)}
	case 2:
		return piece{"**", "(?s:.*)", textFrom(x, true)}
	case 3, 4, 5:
		return classFrom(x)
	}
	text := string(r)
	if strings.ContainsRune(`?*[\`, r) || x.Intn(4) == 0 {
		text = `\` + text
	}
	return piece{text, point(r), string(r)}
}

// classFrom is any class.
func classFrom(x *rand.Rand) piece {
	not := x.Intn(3) == 0
	text, inside := "", ""
	name := "x"
	for k := range 1 + x.Intn(3) {
		from, to := runeFrom(x), runeFrom(x)
		if from > to {
			from, to = to, from
		}
		if x.Intn(2) == 0 {
			to = from
		}
		text += member(x, from, k == 0 && !not, k == 0)
		if to != from {
			text += "-" + member(x, to, false, false)
		}
		// A slash is in no class.
		if from < '/' {
			inside += point(from) + "-" + point(min(to, '.'))
			name = string(from)
		}
		if to > '/' {
			inside += point(max(from, '0')) + "-" + point(to)
			name = string(to)
		}
	}
	if x.Intn(4) == 0 {
		text += "-"
		inside += point('-')
	}
	switch {
	case not:
		return piece{"[!" + text + "]", "[^/" + inside + "]", "y"}
	case inside == "":
		return piece{"[" + text + "]", `[^\x{0}-\x{10ffff}]`, "/"}
	}
	return piece{"[" + text + "]", "[" + inside + "]", name}
}

// member is r as a class has it: with a backslash ahead where it would be something else.
func member(x *rand.Rand, r rune, first, firstPart bool) string {
	if r == '\\' || r == '-' || r == ']' && !firstPart || r == '!' && first || x.Intn(4) == 0 {
		return `\` + string(r)
	}
	return string(r)
}

// P13.1: patterns of random pieces are held against the library's regexp, which is made of the same pieces.
func TestAsTheLibrary(t *testing.T) {
	x := rand.New(rand.NewSource(13))
	var many [2]int
	for range 30000 {
		pattern, expression, name := "", "", ""
		for range x.Intn(7) {
			p := pieceFrom(x)
			if strings.HasPrefix(p.glob, "*") && strings.HasSuffix(pattern, "*") {
				continue
			}
			pattern += p.glob
			expression += p.regexp
			name += p.name
		}
		if len(pattern) > 100 {
			continue
		}
		g, e := glob(t, pattern), regexp.MustCompile("^(?:"+expression+")$")
		for _, n := range []string{name, name + "a", textFrom(x, true), changed(x, name), changed(x, changed(x, name))} {
			want := e.MatchString(n)
			if got := g.Match(n); got != want {
				t.Errorf("%q of %q (%s): %v", n, pattern, expression, got)
			}
			if want {
				many[1]++
			} else {
				many[0]++
			}
		}
	}
	if many[0] < 10000 || many[1] < 10000 {
		t.Errorf("%d didn't match, %d did", many[0], many[1])
	}
}

// changed is the name with one byte changed, put in, or left out.
func changed(x *rand.Rand, name string) string {
	if name == "" {
		return string(runeFrom(x))
	}
	at := x.Intn(len(name))
	switch x.Intn(4) {
	case 0:
		return name[:at] + name[at+1:]
	case 1:
		return name[:at] + string(runeFrom(x)) + name[at:]
	case 2:
		return name[:at] + "\xff" + name[at+1:]
	}
	return name[:at] + string(runeFrom(x)) + name[at+1:]
}
