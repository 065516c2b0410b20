package aho

import (
	"bytes"
	"math/rand"
	"slices"
	"testing"
)

// P14.2: words out of longer texts, and some that are changed, end where the library finds them first.
func TestAsTheLibraryFinds(t *testing.T) {
	for seed := range int64(300) {
		x := rand.New(rand.NewSource(seed))
		of := []string{"ab", "abcd", "\x00\x01\xfe\xff", "the archives' own bytes"}[x.Intn(4)]
		text := []byte(drawn(x, of, 100+x.Intn(20000)))
		var words [][]byte
		var want []int
		for range 1 + x.Intn(8) {
			at, n := x.Intn(len(text)-64), 1+x.Intn(64)
			word := slices.Clone(text[at : at+n])
			if x.Intn(2) == 0 {
				word[x.Intn(n)]++
			}
			words = append(words, word)
			end := bytes.Index(text, word)
			if end >= 0 {
				end += n
			}
			want = append(want, end)
		}
		w, e := New(words...)
		s := w.Scan()
		n := s.Put(text)
		if l := s.First(); !slices.Equal(l, want) || n != found(want) {
			t.Errorf("%q: %v, %v, Put %d, wanted %v", words, l, e, n, want)
		}
	}
}
