package aho

import (
	"math/rand"
	"slices"
	"testing"

	"inquest/api"
)

// The model tells the chapter anew: each word is laid at each place of all bytes that were seen, from the first one on.

// asBytes are texts as bytes.
func asBytes(texts []string) [][]byte {
	var l [][]byte
	for _, s := range texts {
		l = append(l, []byte(s))
	}
	return l
}

// ends are where each word ends first in the text; -1, if it isn't in it.
func ends(words []string, text string) []int {
	l := make([]int, len(words))
	for i, w := range words {
		l[i] = -1
		for at := 0; at+len(w) <= len(text); at++ {
			if text[at:at+len(w)] == w {
				l[i] = at + len(w)
				break
			}
		}
	}
	return l
}

// found is how many words end somewhere.
func found(ends []int) int {
	n := 0
	for _, e := range ends {
		if e >= 0 {
			n++
		}
	}
	return n
}

// made are the words, which are right.
func made(t testing.TB, words ...string) *Words {
	t.Helper()
	w, e := New(asBytes(words)...)
	if w == nil || e != api.OK {
		t.Fatalf("New(%q): %v, %v", words, w, e)
	}
	return w
}

// tells asks for all that a scan tells that has seen the text.
func tells(t testing.TB, s *Scan, words []string, text string) {
	t.Helper()
	want := ends(words, text)
	if l := s.First(); !slices.Equal(l, want) {
		t.Fatalf("%q in %.200q: First %v, wanted %v", words, text, l, want)
	}
	if all := found(want) == len(words); s.All() != all {
		t.Fatalf("%q in %.200q: All %v", words, text, !all)
	}
	if s.Len() != len(text) {
		t.Fatalf("%q in %.200q: Len %d, wanted %d", words, text, s.Len(), len(text))
	}
}

// asModel puts the pieces, and holds all that is told against the model, ahead of the first piece and behind each.
func asModel(t testing.TB, w *Words, words []string, pieces ...string) {
	t.Helper()
	s := w.Scan()
	text := ""
	tells(t, s, words, text)
	for _, p := range pieces {
		want := found(ends(words, text+p)) - found(ends(words, text))
		if n := s.Put([]byte(p)); n != want {
			t.Fatalf("%q: Put(%.200q) behind %.200q: %d, wanted %d", words, p, text, n, want)
		}
		text += p
		tells(t, s, words, text)
	}
}

// texts are all texts of these bytes, from so many bytes on to so many.
func texts(of string, from, to int) []string {
	all, row := []string{}, []string{""}
	for n := range to + 1 {
		if n >= from {
			all = append(all, row...)
		}
		var longer []string
		for _, s := range row {
			for i := range len(of) {
				longer = append(longer, s+of[i:i+1])
			}
		}
		row = longer
	}
	return all
}

// drawn is a text of so many bytes of these.
func drawn(x *rand.Rand, of string, n int) string {
	b := make([]byte, n)
	for i := range b {
		b[i] = of[x.Intn(len(of))]
	}
	return string(b)
}

// cut is the text in pieces of at most so many bytes, some of them empty.
func cut(x *rand.Rand, text string, most int) []string {
	var l []string
	for len(text) > 0 {
		n := min(x.Intn(most+1), len(text))
		l = append(l, text[:n])
		text = text[n:]
	}
	return l
}

// P14.1, P14.2: all small words, one, two and three of them, in all small texts.
func TestAllSmallWords(t *testing.T) {
	words, inTexts := texts("ab", 1, 3), texts("ab", 0, 6)
	for _, a := range words {
		for _, b := range words {
			for _, c := range words {
				for many, l := range [][]string{{a}, {a, b}, {a, b, c}} {
					if many == 0 && b+c != "aa" || many == 1 && c != "a" {
						continue
					}
					w := made(t, l...)
					for _, text := range inTexts {
						asModel(t, w, l, text)
					}
				}
			}
		}
	}
}

// P14.1, P14.2: all pairs of words of up to four of three bytes, in texts that have all of these words.
func TestAllPairs(t *testing.T) {
	words := texts("abc", 1, 4)
	x := rand.New(rand.NewSource(1))
	for _, a := range words {
		for _, b := range words {
			asModel(t, made(t, a, b), []string{a, b}, cut(x, drawn(x, "abc", 20), 15)...)
		}
	}
}

// P14.1 to P14.3: words drawn of few kinds of bytes, of all lengths, in texts that are drawn of these, and of the words' parts.
func TestDrawnWords(t *testing.T) {
	var kinds [3]int
	for seed := range int64(3000) {
		x := rand.New(rand.NewSource(seed))
		of := []string{"a", "ab", "abc", "\x00\xff", "abcdefgh", "\x00\x01\x7f\x80\xfe\xff"}[x.Intn(6)]
		longest := []int{2, 4, 10, 64}[x.Intn(4)]
		var words []string
		for range 1 + x.Intn(8) {
			words = append(words, drawn(x, of, 1+x.Intn(longest)))
		}
		text := ""
		for range x.Intn(20) {
			word := words[x.Intn(len(words))]
			from := x.Intn(len(word))
			text += drawn(x, of, x.Intn(4)) + word[from:from+x.Intn(len(word)-from+1)]
		}
		asModel(t, made(t, words...), words, cut(x, text, 1+x.Intn(30))...)
		switch found(ends(words, text)) {
		case 0:
			kinds[0]++
		case len(words):
			kinds[2]++
		default:
			kinds[1]++
		}
	}
	for k, n := range kinds {
		if n < 100 {
			t.Errorf("so few of kind %d: %d", k, n)
		}
	}
}
