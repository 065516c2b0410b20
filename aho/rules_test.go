package aho

import (
	"bytes"
	"math/rand"
	"slices"
	"sync"
	"testing"

	"inquest/api"
)

// noWords asks each call of a nil Words, or Scan, twice.
func noWords(t *testing.T, why string, w *Words) {
	t.Helper()
	for range 2 {
		if w.Scan() != nil {
			t.Errorf("%s: there is a scan", why)
		}
	}
	noScan(t, why, w.Scan())
}

// noScan asks each call of a nil Scan twice.
func noScan(t *testing.T, why string, s *Scan) {
	t.Helper()
	for range 2 {
		for _, b := range [][]byte{nil, {}, []byte("a"), make([]byte, 1000)} {
			if n := s.Put(b); n != 0 {
				t.Errorf("%s: Put %d", why, n)
			}
		}
		if l := s.First(); len(l) != 0 {
			t.Errorf("%s: First %v", why, l)
		}
		if s.All() || s.Len() != 0 {
			t.Errorf("%s: All %v, Len %d", why, s.All(), s.Len())
		}
	}
}

// P14.2, R1: of a nil Words, and of a nil Scan: nil, 0, nothing, false.
func TestNil(t *testing.T) {
	noWords(t, "nil Words", nil)
	noScan(t, "nil Scan", nil)
	for why, words := range map[string][][]byte{"no words": nil, "nine words": right(9), "too long": {make([]byte, 65)}, "no bytes": {{}}} {
		w, _ := New(words...)
		noWords(t, why, w)
	}
}

// R1, R2: any words are taken, or told why not, and any bytes are seen.
func TestAnyWords(t *testing.T) {
	x := rand.New(rand.NewSource(1))
	var kinds [4]int
	for range 20000 {
		words := make([][]byte, x.Intn(10))
		want := api.OK
		for i := range words {
			words[i] = make([]byte, x.Intn(6))
			if x.Intn(30) == 0 {
				words[i] = make([]byte, 60+x.Intn(10))
			}
			x.Read(words[i])
			switch {
			case len(words[i]) > 64:
				want = api.ErrLong
			case len(words[i]) == 0 && want == api.OK:
				want = api.ErrArg
			}
		}
		if len(words) == 0 || len(words) == 9 {
			want = api.ErrMany
		}
		kinds[slices.Index([]api.Errno{api.OK, api.ErrMany, api.ErrLong, api.ErrArg}, want)]++
		if want != api.OK {
			is(t, "any words", words, want)
			continue
		}
		var texts []string
		for _, w := range words {
			texts = append(texts, string(w))
		}
		b := make([]byte, x.Intn(50))
		x.Read(b)
		asModel(t, made(t, texts...), texts, string(b), texts[0], string(bytes.Join(words, b)))
	}
	for k, n := range kinds {
		if n < 100 {
			t.Errorf("so few of kind %d: %d", k, n)
		}
	}
}

// roomy is b, with room behind it that is filled, so that a write into it is seen.
func roomy(b []byte) []byte {
	whole := append(slices.Clone(b), bytes.Repeat([]byte{0xaa}, 100)...)
	return whole[:len(b)]
}

// rooms are the words in a list with room behind it, in which other ones stand.
func rooms(words []string) [][]byte {
	l := make([][]byte, 0, len(words)+3)
	for _, w := range words {
		l = append(l, roomy([]byte(w)))
	}
	return append(l, []byte("x"), []byte("y"), nil)[:len(words)]
}

// spoil changes all of b, spare room included.
func spoil(b []byte) {
	b = b[:cap(b)]
	for i := range b {
		b[i] ^= 0x55
	}
}

// copied are the lists of bytes, and all of their spare room, in memory of their own.
func copied(l [][]byte) [][]byte {
	var out [][]byte
	for _, b := range l[:cap(l)] {
		out = append(out, slices.Clone(b[:cap(b)]))
	}
	return out
}

// R4: neither the words nor the bytes are changed, spare room included, whether they are right or not.
func TestArgumentsStay(t *testing.T) {
	lists := [][]string{{"a", ""}, {"a", string(long[1]), "b"}, {"1", "2", "3", "4", "5", "6", "7", "8", "9"}, {}}
	for _, c := range some {
		lists = append(lists, c.words)
	}
	for i, l := range lists {
		words := rooms(l)
		text := roomy([]byte("ushers, and archives: ababab"))
		if i >= 4 {
			text = roomy([]byte(some[i-4].text))
		}
		before, beforeText := copied(words), slices.Clone(text[:cap(text)])
		w, _ := New(words...)
		for range 2 {
			s := w.Scan()
			s.Put(text)
			spoilNumbers(s.First())
			s.Put(text)
			s.All()
			s.Len()
		}
		if after := copied(words); !slices.EqualFunc(before, after, bytes.Equal) {
			t.Errorf("%q became %q", before, after)
		}
		if !bytes.Equal(text[:cap(text)], beforeText) {
			t.Errorf("%q became %q", beforeText, text[:cap(text)])
		}
	}
}

// R4: the words aren't kept as they are: when they change behind New, the same ones are looked for, and so by a scan that is under way.
func TestWordsAreNotKept(t *testing.T) {
	for _, c := range some {
		words := rooms(c.words)
		w, _ := New(words...)
		s := w.Scan()
		half := len(c.text) / 2
		n := s.Put([]byte(c.text[:half]))
		for i := range words {
			spoil(words[i])
			words[i] = []byte("#")
		}
		n += s.Put([]byte(c.text[half:]))
		tells(t, s, c.words, c.text)
		if n != found(c.ends) {
			t.Errorf("%q in %q: Put %d", c.words, c.text, n)
		}
		asModel(t, w, c.words, c.text, "#", c.text)
	}
}

// R4: the bytes aren't kept as they are: they may change behind Put, also in the middle of a word, in one memory for all pieces.
func TestBytesAreNotKept(t *testing.T) {
	for _, c := range some {
		w := made(t, c.words...)
		for size := 1; size < 5; size++ {
			s := w.Scan()
			memory := make([]byte, size, size+9)
			for rest := c.text; rest != ""; {
				n := copy(memory, rest)
				s.Put(memory[:n])
				spoil(memory)
				rest = rest[n:]
			}
			tells(t, s, c.words, c.text)
		}
	}
}

// spoilNumbers changes all numbers, spare room included.
func spoilNumbers(l []int) {
	l = l[:cap(l)]
	for i := range l {
		l[i] = -7 - i
	}
}

// R4: what First answers is nobody else's: it stays as it is, and what is done with it bears on no other answer, nor on what is found.
func TestAnswersAreNew(t *testing.T) {
	for _, c := range some {
		w := made(t, c.words...)
		s, other := w.Scan(), w.Scan()
		ahead := s.First()
		s.Put([]byte(c.text))
		other.Put([]byte(c.text))
		kept := s.First()
		for range 3 {
			spoilNumbers(s.First())
			tells(t, s, c.words, c.text)
			tells(t, other, c.words, c.text)
			tells(t, w.Scan(), c.words, "")
		}
		s.Put([]byte("x"))
		for _, word := range c.words {
			s.Put([]byte(word))
		}
		if !slices.Equal(kept, c.ends) || slices.ContainsFunc(ahead, func(n int) bool { return n != -1 }) {
			t.Errorf("%q in %q: First became %v, ahead %v", c.words, c.text, kept, ahead)
		}
	}
}

// R4: changed numbers bear on no word that is found later.
func TestChangedAnswersFindNothing(t *testing.T) {
	words := []string{"ab", "b", "c"}
	s := made(t, words...).Scan()
	text := ""
	for _, p := range []string{"", "a", "b", "a", "c", "b"} {
		for _, n := range []int{-1, 0, 3, 99} {
			l := s.First()
			for i := range l {
				l[i] = n
			}
		}
		s.Put([]byte(p))
		text += p
		tells(t, s, words, text)
	}
}

// R5: several scans of the same words, of which each sees its own bytes by turns, don't touch each other.
func TestScansByTurns(t *testing.T) {
	x := rand.New(rand.NewSource(5))
	words := []string{"ab", "bca", "cc", "abcab", "a", "bb", "ab", "cabcabcabc"}
	w := made(t, words...)
	scans := make([]*Scan, 6)
	seen := make([]string, len(scans))
	for i := range scans {
		scans[i] = w.Scan()
	}
	for range 3000 {
		i := x.Intn(len(scans))
		p := drawn(x, "abc", x.Intn(4))
		want := found(ends(words, seen[i]+p)) - found(ends(words, seen[i]))
		if n := scans[i].Put([]byte(p)); n != want {
			t.Fatalf("Put(%q) behind %q: %d, wanted %d", p, seen[i], n, want)
		}
		seen[i] += p
		for k := range scans {
			tells(t, scans[k], words, seen[k])
		}
		if len(seen[i]) > 60 {
			scans[i], seen[i] = w.Scan(), ""
		}
	}
}

// R5: the same again, of words that are made anew, and of those that were there, whatever was looked for in between.
func TestSameAgain(t *testing.T) {
	for _, c := range some {
		old := made(t, c.words...)
		for range 50 {
			for _, w := range []*Words{old, made(t, c.words...)} {
				first, every, long, put := all(w, []byte(c.text))
				if !slices.Equal(first, c.ends) || every != !slices.Contains(c.ends, -1) || long != len(c.text) || put != found(c.ends) {
					t.Fatalf("%q in %q: %v, %v, %d, %d", c.words, c.text, first, every, long, put)
				}
			}
			made(t, "another", "word")
			New()
		}
	}
}

// R5: to ask a scan changes nothing.
func TestAskingChangesNothing(t *testing.T) {
	for _, c := range some {
		s, quiet := made(t, c.words...).Scan(), made(t, c.words...).Scan()
		for i := range len(c.text) {
			for range 3 {
				s.First()
				s.All()
				s.Len()
			}
			if a, b := s.Put([]byte{c.text[i]}), quiet.Put([]byte{c.text[i]}); a != b {
				t.Errorf("%q in %q: Put %d and %d", c.words, c.text, a, b)
			}
		}
		tells(t, s, c.words, c.text)
		tells(t, quiet, c.words, c.text)
	}
}

// R5: several may look for the same words at once, each with a scan of its own.
func TestAtOnce(t *testing.T) {
	list := make([]*Words, len(some))
	for i, c := range some {
		list[i] = made(t, c.words...)
	}
	var every sync.WaitGroup
	for k := range 8 {
		every.Go(func() {
			for i := range some {
				c, w := some[(i+k)%len(some)], list[(i+k)%len(some)]
				s := w.Scan()
				n := 0
				for j := range len(c.text) {
					n += s.Put([]byte{c.text[j]})
				}
				if l := s.First(); !slices.Equal(l, c.ends) || n != found(c.ends) || s.Len() != len(c.text) {
					t.Errorf("%q in %q: %v, Put %d", c.words, c.text, l, n)
				}
				again, e := New(asBytes(c.words)...)
				if again == nil || e != api.OK {
					t.Errorf("%q: %v", c.words, e)
				}
			}
		})
	}
	every.Wait()
}
