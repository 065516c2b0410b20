package aho

import (
	"math/rand"
	"slices"
	"strings"
	"testing"
)

// cuts are all ways to cut the text into pieces that have bytes.
func cuts(text string) [][]string {
	if text == "" {
		return [][]string{nil}
	}
	var l [][]string
	for n := 1; n <= len(text); n++ {
		for _, rest := range cuts(text[n:]) {
			l = append(l, append([]string{text[:n]}, rest...))
		}
	}
	return l
}

// all are what a scan tells behind these pieces, and what Put told in all.
func all(w *Words, pieces ...[]byte) (first []int, every bool, long, put int) {
	s := w.Scan()
	for _, p := range pieces {
		put += s.Put(p)
	}
	return s.First(), s.All(), s.Len(), put
}

// P14.3: each way to cut some short texts.
func TestEveryCut(t *testing.T) {
	for _, c := range some {
		if len(c.text) > 8 {
			continue
		}
		w := made(t, c.words...)
		for _, pieces := range cuts(c.text) {
			asModel(t, w, c.words, pieces...)
			first, every, long, put := all(w, asBytes(pieces)...)
			if !slices.Equal(first, c.ends) || every != !slices.Contains(c.ends, -1) || long != len(c.text) || put != found(c.ends) {
				t.Errorf("%s: %q in %q: %v, %v, %d, %d", c.why, c.words, pieces, first, every, long, put)
			}
		}
	}
	if n := len(cuts("abcde")); n != 16 {
		t.Errorf("%d ways to cut", n)
	}
}

// P14.3: pieces of one byte, with empty ones and nil between them.
func TestSmallPieces(t *testing.T) {
	for _, c := range some {
		w := made(t, c.words...)
		var single, mixed [][]byte
		for i := range len(c.text) {
			b := []byte(c.text[i : i+1])
			single = append(single, b)
			mixed = append(mixed, nil, []byte{}, b, make([]byte, 0, 9), nil)
		}
		for _, pieces := range [][][]byte{single, mixed, append(mixed, []byte{}, nil)} {
			first, every, long, put := all(w, pieces...)
			if !slices.Equal(first, c.ends) || every != !slices.Contains(c.ends, -1) || long != len(c.text) || put != found(c.ends) {
				t.Errorf("%s: %q in %q: %v, %v, %d, %d", c.why, c.words, c.text, first, every, long, put)
			}
		}
	}
}

// P14.3, R3: pieces of no bytes change nothing, wherever in a word they come.
func TestEmptyPieces(t *testing.T) {
	words := []string{"abcd", "bc", "d"}
	w := made(t, words...)
	s := w.Scan()
	for i := range 5 {
		for range 3 {
			for _, none := range [][]byte{nil, {}, make([]byte, 0, 9), []byte("abcd")[2:2]} {
				if n := s.Put(none); n != 0 {
					t.Errorf("Put of nothing is %d", n)
				}
				tells(t, s, words, "abcd"[:i])
			}
		}
		if i < 4 {
			s.Put([]byte("abcd"[i : i+1]))
		}
	}
}

// P14.3: a word that is spread over two to all of its bytes in pieces, with others around it.
func TestSpreadWords(t *testing.T) {
	word := "abcabd" + strings.Repeat("xy", 20) + "abcabc"
	words := []string{word, "cab", word[3:], word[:9], "yx"}
	w := made(t, words...)
	for size := 1; size <= len(word)+1; size++ {
		for shift := range size {
			text := strings.Repeat("ab", 3) + word + "c"
			pieces := []string{text[:shift]}
			for rest := text[shift:]; rest != ""; {
				n := min(size, len(rest))
				pieces = append(pieces, rest[:n])
				rest = rest[n:]
			}
			asModel(t, w, words, pieces...)
		}
	}
}

// P14.3: what is found in long texts is the same in pieces of any size.
func TestLongTextsInPieces(t *testing.T) {
	for seed := range int64(20) {
		x := rand.New(rand.NewSource(seed))
		text := drawn(x, "abc", 20000)
		var words []string
		for n := range 8 {
			at := x.Intn(len(text) - 64)
			words = append(words, text[at:at+4+n*x.Intn(9)])
		}
		words[7] = "abd"
		w := made(t, words...)
		first, every, long, put := all(w, []byte(text))
		if want := ends(words, text); !slices.Equal(first, want) || every || long != 20000 || put != 7 {
			t.Errorf("%v, %v, %d, %d", first, every, long, put)
		}
		for _, most := range []int{1, 2, 3, 5, 64, 100, 1000, 7000} {
			first2, every2, long2, put2 := all(w, asBytes(cut(x, text, most))...)
			if !slices.Equal(first, first2) || every != every2 || long != long2 || put != put2 {
				t.Errorf("pieces of at most %d: %v, %v, %d, %d", most, first2, every2, long2, put2)
			}
		}
	}
}
