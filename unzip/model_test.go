package unzip

import (
	"bytes"
	"compress/flate"
	"encoding/binary"
	"fmt"
	"hash/crc32"
	"math"
	"math/rand"
	"slices"
	"strconv"
	"strings"
	"testing"

	"inquest/api"
	"inquest/inflate"
)

// n2, n4 and n8 are numbers in 2, 4 and 8 bytes.
type (
	n2 uint64
	n4 uint64
	n8 uint64
)

// join is the parts' bytes, one behind the other, by the library's numbers and not by layer 1's.
func join(parts ...any) string {
	var b []byte
	for _, p := range parts {
		switch x := p.(type) {
		case n2:
			b = binary.LittleEndian.AppendUint16(b, uint16(x))
		case n4:
			b = binary.LittleEndian.AppendUint32(b, uint32(x))
		case n8:
			b = binary.LittleEndian.AppendUint64(b, uint64(x))
		case string:
			b = append(b, x...)
		default:
			panic("no such part")
		}
	}
	return string(b)
}

// raw is a head as it stands. Where at isn't 0, a central one tells that its local head begins so many bytes farther.
type raw struct {
	mark                                              string
	version, flags, method, dos, crc, csize, size, at int
	name, beside, comment                             string
	moreName                                          int
}

// local is the raw head's bytes, as a local one.
func (r raw) local() string {
	return join(r.mark, n2(r.version), n2(r.flags), n2(r.method), n4(r.dos), n4(r.crc), n4(r.csize), n4(r.size),
		n2(len(r.name)+r.moreName), n2(len(r.beside)), r.name, r.beside)
}

// central is the raw head's bytes, as a central one of a local one that begins there.
func (r raw) central(at int) string {
	return join(r.mark, n2(r.version), n2(r.version), n2(r.flags), n2(r.method), n4(r.dos), n4(r.crc), n4(r.csize), n4(r.size),
		n2(len(r.name)+r.moreName), n2(len(r.beside)), n2(len(r.comment)), n2(0), n2(0), n4(0), n4(at+r.at),
		r.name, r.beside, r.comment)
}

// part is an entry as it stands.
type part struct {
	central, local raw
	data, behind   string
}

// both changes both of its heads.
func (p *part) both(change func(r *raw)) {
	change(&p.central)
	change(&p.local)
}

// whole is an archive as it stands: its entries, what stands ahead, between and behind, and what is added to the tail's numbers.
type whole struct {
	parts                           []part
	ahead, between, behind, comment string
	many, long, at                  int
}

// heads are the bytes up to the end of the heads, and where these begin.
func (w whole) heads() (string, int) {
	b, heads := w.ahead, ""
	for _, p := range w.parts {
		heads += p.central.central(len(b))
		b += p.local.local() + p.data + p.behind
	}
	b += w.between
	return b + heads, len(b)
}

// bytes are the archive's bytes.
func (w whole) bytes() []byte {
	b, at := w.heads()
	many := n2(len(w.parts) + w.many)
	return []byte(join(b, w.behind, "PK\x05\x06", n2(0), n2(0), many, many, n4(len(b)-at+w.long), n4(at+w.at), n2(len(w.comment)), w.comment))
}

// someDos is a moment's number.
const someDos = 1482489856

// plainPart is an entry whose data are its content.
func plainPart(name, content string) part {
	return partOf(name, content, content, 0)
}

// packedPart is an entry whose data are packed.
func packedPart(name, content string) part {
	return partOf(name, content, pack(content), 8)
}

func partOf(name, content, data string, method int) part {
	r := raw{version: 20, method: method, dos: someDos, crc: int(crc32.ChecksumIEEE([]byte(content))), csize: len(data), size: len(content), name: name}
	p := part{central: r, local: r, data: data}
	p.central.mark, p.local.mark = "PK\x01\x02", "PK\x03\x04"
	return p
}

// pack is the content, packed by the library.
func pack(content string) string {
	var b bytes.Buffer
	w, err := flate.NewWriter(&b, 6)
	if err != nil {
		panic(err)
	}
	w.Write([]byte(content))
	w.Close()
	return b.String()
}

// file is what an archive's entry is told as, when its data begin there.
func (p part) file(at int) api.File {
	c := p.central
	return api.File{Name: c.name, Method: c.method, Dos: c.dos, Crc: uint32(c.crc), Csize: c.csize, Size: c.size, At: at}
}

// alone is the entry's data between others, and what tells of it.
func (p part) alone() ([]byte, api.File) {
	return []byte("ahead" + p.data + "behind"), p.file(5)
}

// noise is so many bytes in no order, each below the bound.
func noise(seed int64, many, bound int) string {
	x := rand.New(rand.NewSource(seed))
	b := make([]byte, many)
	for i := range b {
		b[i] = byte(x.Intn(bound))
	}
	return string(b)
}

// contents are contents of many lengths, around what is kept at once, and what is handed out at once.
func contents() []string {
	all := []string{"", "a", "hello, hello, hello", "\x00\xff", strings.Repeat("long ", 30000), noise(1, 200000, 256), noise(2, 100000, 3)}
	for _, n := range []int{api.Window, 1 << 16, 1 << 17} {
		for more := -1; more <= 1; more++ {
			all = append(all, noise(int64(n), n+more, 7))
		}
	}
	return all
}

var extremes = []int{math.MinInt, math.MinInt + 1, -1 << 32, -65536, -2, -1, 0, 1, 2, 7, 8, 9, 65535, 65536, 65537, 1<<24 - 1, 1 << 24, 1<<24 + 1, 1 << 31, 1 << 32, 1 << 48, math.MaxInt - 1, math.MaxInt}

// tell tells of at most three files.
func tell(l []api.File) string {
	return strconv.Itoa(len(l)) + fmt.Sprintf(" files %+v", l[:min(len(l), 3)])
}

// opens holds what Open answers against what is wanted.
func opens(t *testing.T, what string, b []byte, want []api.File, wanted api.Errno) {
	t.Helper()
	if l, e := Open(b); e != wanted || !slices.Equal(l, want) {
		t.Errorf("%s: Open: %s, %v, wanted %s, %v", what, tell(l), e, tell(want), wanted)
	}
}

// told is the content that the document tells, by layer 6's All, and the library's sum.
func told(b []byte, f api.File) ([]byte, api.Errno) {
	if f.At < 0 || f.Csize < 0 || f.At > len(b) || len(b)-f.At < f.Csize || f.Method != 0 && f.Method != 8 || f.Size < 0 || f.Size > 16777216 {
		return nil, api.ErrArg
	}
	data := b[f.At:][:f.Csize]
	all, taken := data, len(data)
	if f.Method == 8 {
		var e api.Errno
		all, taken, e = inflate.All(data, f.Size)
		if e == api.ErrLong {
			return nil, api.ErrSize
		}
		if e != api.OK {
			return nil, e
		}
	}
	if taken < len(data) || len(all) != f.Size {
		return nil, api.ErrSize
	}
	if crc32.ChecksumIEEE(all) != f.Crc {
		return nil, api.ErrSum
	}
	return all, api.OK
}

// unpacked is all that comes of the entry's data, up to an error.
func unpacked(b []byte, f api.File) []byte {
	data := b[f.At:][:f.Csize]
	if f.Method == 0 {
		return data
	}
	r := inflate.New()
	r.Put(data)
	var all []byte
	for {
		out, e := r.Get(1 << 16)
		all = append(all, out...)
		if e != api.OK || r.Done() {
			return all
		}
	}
}

// brings holds the content, at once and in pieces of these lengths, against what is wanted.
func brings(t *testing.T, what string, b []byte, f api.File, want string, wanted api.Errno, mosts ...int) {
	t.Helper()
	if out, e := Content(b, f); string(out) != want || e != wanted {
		t.Errorf("%s: Content: %d bytes %.40x, %v, wanted %d bytes %.40x, %v", what, len(out), out, e, len(want), want, wanted)
	}
	for _, most := range mosts {
		out, e := pieces(t, what, Read(b, f), func() int { return most })
		if e != wanted || e == api.OK && string(out) != want {
			t.Errorf("%s: in pieces of %d: %d bytes %.40x, %v, wanted %d bytes %.40x, %v", what, most, len(out), out, e, len(want), want, wanted)
		}
		if e != api.OK && len(out) > 0 && !bytes.HasPrefix(unpacked(b, f), out) {
			t.Errorf("%s: in pieces of %d: %.40x ahead of the error", what, most, out)
		}
	}
}

// pieces are all pieces of the stream, and its error. Each piece is held against what Next may answer.
func pieces(t *testing.T, what string, s *Stream, next func() int) ([]byte, api.Errno) {
	t.Helper()
	var all []byte
	for {
		if s.Done() {
			over(t, what, s, api.OK)
			return all, api.OK
		}
		most := next()
		held := max(1, min(most, 65536))
		out, e := s.Next(most)
		if kept := s.Held(); kept < 0 || kept > api.Window+held {
			t.Fatalf("%s: Held %d behind Next(%d)", what, kept, most)
		}
		if e != api.OK {
			if len(out) != 0 {
				t.Fatalf("%s: Next(%d): %x beside %v", what, most, out, e)
			}
			over(t, what, s, e)
			return all, e
		}
		if len(out) > held || len(out) < held && !s.Done() {
			t.Fatalf("%s: Next(%d): %d bytes, Done %v", what, most, len(out), s.Done())
		}
		all = append(all, out...)
	}
}

// over tells whether the stream has ended, with that error or without one, for all that comes behind.
func over(t *testing.T, what string, s *Stream, wanted api.Errno) {
	t.Helper()
	for _, n := range []int{1, 0, -1, 65536, math.MaxInt} {
		if out, e := s.Next(n); len(out) != 0 || e != wanted {
			t.Fatalf("%s: Next(%d) behind the end: %x, %v, wanted %v", what, n, out, e, wanted)
		}
		if s.Done() != (wanted == api.OK) || s.Held() != 0 {
			t.Fatalf("%s: Done %v, Held %d behind the end, wanted %v", what, s.Done(), s.Held(), wanted)
		}
	}
}
