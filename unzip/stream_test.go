package unzip

import (
	"fmt"
	"strings"
	"testing"

	"inquest/api"
	"inquest/inflate"
)

// gets holds the next piece against what is wanted, and Done behind it.
func gets(t *testing.T, what string, s *Stream, most int, want string, done bool) {
	t.Helper()
	if out, e := s.Next(most); string(out) != want || e != api.OK || s.Done() != done {
		t.Errorf("%s: Next(%d): %d bytes %.40q, %v, Done %v, wanted %d bytes %.40q, OK, %v", what, most, len(out), out, e, s.Done(), len(want), want, done)
	}
}

// bothWays are streams of the content, plain and packed.
func bothWays(content string) map[string]*Stream {
	plain, f := plainPart("n", content).alone()
	packed, g := packedPart("n", content).alone()
	return map[string]*Stream{"plain": Read(plain, f), "packed": Read(packed, g)}
}

// P11.2: as many bytes come as are asked for, fewer at the end alone; a piece that ends just there meets it, too.
func TestNext(t *testing.T) {
	for what, s := range bothWays("hello, hello, hello") {
		gets(t, what, s, 7, "hello, ", false)
		gets(t, what, s, 1, "h", false)
		gets(t, what, s, 0, "e", false)
		gets(t, what, s, -1, "l", false)
		gets(t, what, s, 100, "lo, hello", true)
		over(t, what, s, api.OK)
	}
	for what, s := range bothWays("hello, hello, hello") {
		gets(t, what, s, 18, "hello, hello, hell", false)
		gets(t, what, s, 1, "o", true)
		over(t, what, s, api.OK)
	}
	for what, s := range bothWays("hello, hello, hello") {
		gets(t, what, s, 19, "hello, hello, hello", true)
		over(t, what, s, api.OK)
	}
}

// P11.2: pieces have from 1 to 65536 bytes, whatever is asked for.
func TestMost(t *testing.T) {
	content := noise(11, 200000, 50)
	for _, n := range extremes {
		held := max(1, min(n, 65536))
		for what, s := range bothWays(content) {
			gets(t, what, s, n, content[:held], false)
			gets(t, what, s, n, content[held:2*held], false)
			gets(t, what, s, 65536, content[2*held:][:min(65536, len(content)-2*held)], false)
		}
		for what, s := range bothWays(content[:held]) {
			gets(t, what, s, n, content[:held], true)
			over(t, what, s, api.OK)
		}
		for what, s := range bothWays(content[:held+1]) {
			gets(t, what, s, n, content[:held], false)
			gets(t, what, s, n, content[held:held+1], true)
			over(t, what, s, api.OK)
		}
	}
}

// P11.2: of no bytes all is told ahead of the first Next, but not if they aren't right.
func TestStreamOfNothing(t *testing.T) {
	for what, s := range bothWays("") {
		if !s.Done() {
			t.Errorf("%s: not Done", what)
		}
		over(t, what, s, api.OK)
	}
	for _, p := range []part{plainPart("n", ""), packedPart("n", "")} {
		p.central.crc++
		b, f := p.alone()
		s := Read(b, f)
		if s.Done() {
			t.Error("Done, with another sum")
		}
		over(t, "another sum", s, api.ErrSum)
	}
}

// P11.2: nothing is Done ahead of the first Next, or between pieces, nor where an error is to come.
func TestDone(t *testing.T) {
	for what, s := range bothWays("ab") {
		if s.Done() {
			t.Errorf("%s: Done at once", what)
		}
		gets(t, what, s, 1, "a", false)
		gets(t, what, s, 1, "b", true)
	}
	for _, c := range wrongs {
		if c.e == api.OK {
			continue
		}
		f := api.File{Method: c.method, Crc: 0x3610a686 ^ c.crc, Csize: len(c.data) + c.csize, Size: c.size, At: 5}
		for _, most := range []int{1, 4, 5, 6} {
			s := Read([]byte("ahead"+c.data+"behind"), f)
			for range 12 {
				if s.Done() {
					t.Errorf("%s: Done", c.what)
				}
				s.Next(most)
			}
			over(t, c.what, s, c.e)
		}
	}
}

// P11.2, P11.3: an error is told when it is met: what is asked for ahead of it is told, and fewer bytes than that aren't.
func TestErrorIsMet(t *testing.T) {
	long := strings.Repeat("hello", 40)
	for _, c := range []struct {
		what, data   string
		method, size int
		e            api.Errno
	}{
		{"cut", "\x00\xc8\x00\x37\xff" + long[:100], 8, 200, api.ErrEnd},
		{"spoilt", "\x00\x64\x00\x9b\xff" + long[:100] + "\x07", 8, 200, api.ErrData},
		{"fewer", "\x01\x64\x00\x9b\xff" + long[:100], 8, 200, api.ErrSize},
		{"plain, fewer", long[:100], 0, 200, api.ErrSize},
	} {
		f := api.File{Method: c.method, Csize: len(c.data), Size: c.size}
		s := Read([]byte(c.data), f)
		gets(t, c.what, s, 60, long[:60], false)
		gets(t, c.what, s, 39, long[60:99], false)
		for _, s := range []*Stream{s, Read([]byte(c.data), f)} {
			if out, e := s.Next(101); len(out) != 0 || e != c.e {
				t.Errorf("%s: Next: %x, %v, wanted %v", c.what, out, e, c.e)
			}
			over(t, c.what, s, c.e)
		}
	}
}

// P11.2: never more is kept than Window, and what the last Next could hand out; and nothing behind the end.
func TestHeld(t *testing.T) {
	content := noise(12, 300000, 4)
	p := packedPart("n", content)
	for _, most := range []int{1, 100, 5000, 32768, 65536} {
		b, f := p.alone()
		s, r := Read(b, f), inflate.New()
		r.Put([]byte(p.data))
		if s.Held() != 0 {
			t.Errorf("Held %d ahead of all", s.Held())
		}
		for i := 0; i*most < len(content) && i < 3000; i++ {
			out, e := s.Next(most)
			r.Get(most)
			if e != api.OK || s.Held() > api.Window+most || !s.Done() && s.Held() != r.Held() {
				t.Fatalf("Next(%d): %d bytes, %v, Held %d, of the unpacker %d", most, len(out), e, s.Held(), r.Held())
			}
		}
	}
	b, f := plainPart("n", content).alone()
	s := Read(b, f)
	for !s.Done() {
		// The data are kept as they were handed in; of what was told of them nothing is.
		if s.Next(1000); s.Held() != 0 {
			t.Fatalf("Held %d of plain ones", s.Held())
		}
	}
}

// Behind the end, and behind an error, the data aren't kept either.
func TestDataAreForgotten(t *testing.T) {
	for what, s := range bothWays("content") {
		gets(t, what, s, 100, "content", true)
		if s.from != nil || s.sum != nil {
			t.Errorf("%s: %v is kept", what, s)
		}
	}
	for _, p := range []part{plainPart("n", "content"), packedPart("n", "content")} {
		b, f := p.alone()
		f.Crc++
		s := Read(b, f)
		if _, e := s.Next(100); e != api.ErrSum || s.from != nil || s.sum != nil {
			t.Errorf("%v, %v is kept", e, s)
		}
	}
}

// R1, P11.2: of a nil Stream there is nothing.
func TestNilStream(t *testing.T) {
	var s *Stream
	for _, n := range extremes {
		if out, e := s.Next(n); len(out) != 0 || e != api.ErrNil || s.Done() || s.Held() != 0 {
			t.Errorf("Next(%d): %x, %v, Done %v, Held %d", n, out, e, s.Done(), s.Held())
		}
	}
}

// P11.3: in whatever pieces, one behind the other, they are the content.
func TestUnlikePieces(t *testing.T) {
	content := noise(13, 150000, 9)
	for i, mosts := range [][]int{{1, 65536}, {1, 2, 3, 4, 5, 60000}, {65536, 1}, {0, 70000, -1}, {32768, 1, 32767}, {100000, 18928}, {65535, 65537, 18928}} {
		for what, s := range bothWays(content) {
			k := -1
			out, e := pieces(t, what, s, func() int { k++; return mosts[k%len(mosts)] })
			if string(out) != content || e != api.OK {
				t.Errorf("%s, %d: %d bytes, %v", what, i, len(out), e)
			}
		}
	}
}

// P11.3: Content is all pieces, for each entry of an archive as Open tells it.
func TestOpenAndRead(t *testing.T) {
	var w whole
	for i, content := range contents() {
		w.parts = append(w.parts, plainPart(fmt.Sprint("plain ", i), content), packedPart(fmt.Sprint("packed ", i), content))
	}
	b := w.bytes()
	l, e := Open(b)
	if e != api.OK || len(l) != len(w.parts) {
		t.Fatal(len(l), e)
	}
	for i, content := range contents() {
		brings(t, l[2*i].Name, b, l[2*i], content, api.OK, 1000)
		brings(t, l[2*i+1].Name, b, l[2*i+1], content, api.OK, 1000)
	}
}
