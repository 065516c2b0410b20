package aho

import (
	"bytes"
	"math/rand"
	"slices"
	"strings"
	"testing"

	"inquest/api"
)

// P14.1: one word to eight.
func TestManyWords(t *testing.T) {
	letters := strings.Split("abcdefgh", "")
	for n := 1; n <= 8; n++ {
		words := letters[:n]
		w := made(t, words...)
		asModel(t, w, words, "abcdefgh")
		asModel(t, w, words, "h", "g", "f", "e", "d", "c", "b", "a", "a", "h")
		if l := w.Scan().First(); len(l) != n {
			t.Errorf("%d words: First %v", n, l)
		}
	}
	if api.MaxPats != 8 {
		t.Errorf("MaxPats %d", api.MaxPats)
	}
}

// P14.1: words of one byte to 64: the last byte counts, too.
func TestLongWords(t *testing.T) {
	for n := 1; n <= 64; n++ {
		for _, word := range []string{strings.Repeat("a", n), strings.Repeat("a", n-1) + "b", "b" + strings.Repeat("a", n-1), drawn(rand.New(rand.NewSource(int64(n))), "abcd", n)} {
			words := []string{word}
			w := made(t, words...)
			asModel(t, w, words, word)
			asModel(t, w, words, word[:n-1], "x"+word)
			asModel(t, w, words, word[1:], word[1:], word)
			asModel(t, w, words, word[:n-1], word[n-1:])
			asModel(t, w, words, word[:n/2], word, word)
			asModel(t, w, words, strings.Repeat("a", 70)+"b"+strings.Repeat("a", 70))
			s := w.Scan()
			if s.Put([]byte(word[:n-1])) != 0 || s.Put([]byte(word[n-1:])) != 1 || !slices.Equal(s.First(), []int{n}) {
				t.Errorf("a word of %d bytes: %v", n, s.First())
			}
		}
	}
}

// P14.1: eight words of 64 bytes, which are unlike in one byte: the first, the last, or one between.
func TestLongWordsUnlikeInOneByte(t *testing.T) {
	for _, at := range []int{0, 1, 31, 62, 63} {
		var words []string
		for i := range 8 {
			b := bytes.Repeat([]byte{'0'}, 64)
			b[at] = byte('0' + i)
			words = append(words, string(b))
		}
		w := made(t, words...)
		for i := range words {
			asModel(t, w, words, words[i])
			asModel(t, w, words, words[i][:63], words[7-i][:40], words[i], words[i][1:], words[0])
		}
		asModel(t, w, words, words...)
		asModel(t, w, words, strings.Join(words, "\x00"))
	}
}

// P14.1, P14.2: every byte may be a word, may stand in one, and stands for itself alone.
func TestEveryByte(t *testing.T) {
	every := make([]byte, 256)
	for i := range every {
		every[i] = byte(i)
	}
	for i := range 256 {
		b := string([]byte{byte(i)})
		other, third := string([]byte{byte(i + 1)}), string([]byte{byte(i ^ 128)})
		words := []string{b, b + b, other + b, b + other, b + third}
		w := made(t, words...)
		asModel(t, w, words, string(every))
		asModel(t, w, words, string(every[:i]), string(every[i+1:]))
		asModel(t, w, words, other, b, b, third, other, b+other)
		if l, _, _, _ := all(w, every); l[0] != i+1 || l[1] != -1 {
			t.Errorf("byte %d: %v", i, l)
		}
	}
}

// P14.1: words of all 256 bytes, 32 in each, and in pieces of each word's own.
func TestWordsOfEveryByte(t *testing.T) {
	var words []string
	text := ""
	for i := range 8 {
		b := make([]byte, 64)
		for j := range b {
			b[j] = byte(i*32 + j%32)
		}
		words = append(words, string(b))
		text += string(b)
	}
	w := made(t, words...)
	asModel(t, w, words, text)
	asModel(t, w, words, words...)
	slices.Reverse(words)
	asModel(t, made(t, words...), words, text)
}

// P14.2: words that all but come, again and again, and come at last: each byte is seen once, so this ends soon.
func TestNearlyFound(t *testing.T) {
	word := strings.Repeat("a", 63) + "b"
	words := []string{word, word[1:], "b" + word[1:], "bb", "c", strings.Repeat("ab", 32), "aac", "ba"}
	text := strings.Repeat("a", 1<<20)
	s := made(t, words...).Scan()
	if n := s.Put([]byte(text)); n != 0 || s.All() || s.Len() != 1<<20 {
		t.Errorf("Put %d, All %v, Len %d", n, s.All(), s.Len())
	}
	if n := s.Put([]byte("b")); n != 2 || !slices.Equal(s.First(), []int{1<<20 + 1, 1<<20 + 1, -1, -1, -1, -1, -1, -1}) {
		t.Errorf("Put %d, First %v", n, s.First())
	}
	text = strings.Repeat(strings.Repeat("a", 62)+"b", 20000)
	asModel(t, made(t, word), []string{word}, text, "a", word)
}

// P14.2: where words end far behind, in bytes of some MiB.
func TestFarBehind(t *testing.T) {
	b := make([]byte, 1<<22)
	copy(b[len(b)-8:], "archives")
	s := made(t, "archives", "chive", "s", "\x00\x00a", "es\x00", "\x00").Scan()
	if n := s.Put(b); n != 5 {
		t.Errorf("Put %d", n)
	}
	if l := s.First(); !slices.Equal(l, []int{1 << 22, 1<<22 - 1, 1 << 22, 1<<22 - 7, -1, 1}) {
		t.Errorf("First %v", l)
	}
	if n := s.Put(b[:1]); n != 1 || !s.All() || s.First()[4] != 1<<22+1 {
		t.Errorf("Put %d, All %v, First %v", n, s.All(), s.First())
	}
}
