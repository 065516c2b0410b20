package record

import (
	"encoding/binary"
	"fmt"
	"math"
	"slices"
	"testing"

	"inquest/api"
)

// n2, n4 and n8 are numbers in 2, 4 and 8 bytes.
type (
	n2 uint64
	n4 uint64
	n8 uint64
)

const (
	ones2 = 0xffff
	ones4 = 0xffffffff
	top48 = 1<<48 - 1
)

// join is the parts' bytes, one behind the other, by the library's numbers and not by layer 1's.
func join(parts ...any) string {
	var b []byte
	for _, p := range parts {
		switch x := p.(type) {
		case n2:
			b = binary.LittleEndian.AppendUint16(b, uint16(x))
		case n4:
			b = binary.LittleEndian.AppendUint32(b, uint32(x))
		case n8:
			b = binary.LittleEndian.AppendUint64(b, uint64(x))
		case string:
			b = append(b, x...)
		default:
			panic("no such part")
		}
	}
	return string(b)
}

// raw is a head as it stands, with all that may be read in one.
type raw struct {
	version, flags, method, dos, crc, csize, size uint64
	made, disk, inner, outer, at                  uint64
	name, beside, comment                         string
	moreName, moreBeside, moreComment             int
}

// local is the raw head's bytes, as a local one.
func (r raw) local() string {
	return join("PK\x03\x04", n2(r.version), n2(r.flags), n2(r.method), n4(r.dos), n4(r.crc), n4(r.csize), n4(r.size),
		n2(len(r.name)+r.moreName), n2(len(r.beside)+r.moreBeside), r.name, r.beside)
}

// central is the raw head's bytes, as a central one.
func (r raw) central() string {
	return join("PK\x01\x02", n2(r.made), n2(r.version), n2(r.flags), n2(r.method), n4(r.dos), n4(r.crc), n4(r.csize), n4(r.size),
		n2(len(r.name)+r.moreName), n2(len(r.beside)+r.moreBeside), n2(len(r.comment)+r.moreComment), n2(r.disk), n2(r.inner), n4(r.outer), n4(r.at),
		r.name, r.beside, r.comment)
}

// item1 is the item 1 with these numbers.
func item1(numbers ...uint64) string {
	s := join(n2(1), n2(8*len(numbers)))
	for _, n := range numbers {
		s += join(n8(n))
	}
	return s
}

// other is an item that isn't 1.
func other(number uint64, bytes string) string { return join(n2(number), n2(len(bytes)), bytes) }

// end is a tail as it stands.
type end struct {
	disk, heads, first, many, long, at uint64
	comment                            string
	more                               int
}

func (x end) bytes() string {
	return join("PK\x05\x06", n2(x.disk), n2(x.heads), n2(x.first), n2(x.many), n4(x.long), n4(x.at), n2(len(x.comment)+x.more), x.comment)
}

// wideEnd are a wide tail's two parts as they stand.
type wideEnd struct {
	long, made, version, disk, heads, first, many, size, at uint64
	behind                                                  string
	tailDisk, where, disks                                  uint64
}

func (x wideEnd) bytes() string {
	return join("PK\x06\x06", n8(x.long), n2(x.made), n2(x.version), n4(x.disk), n4(x.heads), n8(x.first), n8(x.many), n8(x.size), n8(x.at), x.behind,
		"PK\x06\x07", n4(x.tailDisk), n8(x.where), n4(x.disks))
}

// versionOf is the version that the document tells.
func versionOf(wide bool) uint64 {
	if wide {
		return 45
	}
	return 20
}

// localOf is h's local head, by the document's row of parts.
func localOf(h api.Head) string {
	r := raw{version: versionOf(h.Wide), flags: uint64(h.Flags), method: uint64(h.Method), dos: uint64(h.Dos), name: string(h.Name)}
	if h.Flags&8 == 0 {
		r.crc, r.csize, r.size = uint64(h.Crc), uint64(h.Csize), uint64(h.Size)
	}
	if h.Wide {
		r.beside = item1(r.size, r.csize)
		r.csize, r.size = ones4, ones4
	}
	return r.local()
}

// centralOf is h's central head, by the document's row of parts.
func centralOf(h api.Head) string {
	r := raw{version: versionOf(h.Wide), made: versionOf(h.Wide), flags: uint64(h.Flags), method: uint64(h.Method), dos: uint64(h.Dos), name: string(h.Name),
		crc: uint64(h.Crc), csize: uint64(h.Csize), size: uint64(h.Size), at: uint64(h.At)}
	if h.Wide {
		r.beside = item1(r.size, r.csize, r.at)
		r.csize, r.size, r.at = ones4, ones4, ones4
	}
	return r.central()
}

// endOf is t's tail, that begins at at, by the document's row of parts.
func endOf(t api.Tail, at int) string {
	many, long, begins := uint64(t.Many), uint64(t.Long), uint64(t.At)
	if !t.Wide {
		return end{first: many, many: many, long: long, at: begins}.bytes()
	}
	w := wideEnd{long: 44, made: 45, version: 45, first: many, many: many, size: long, at: begins, where: uint64(at), disks: 1}
	return w.bytes() + end{first: ones2, many: ones2, long: ones4, at: ones4}.bytes()
}

var extremes = []int{math.MinInt, math.MinInt + 1, -1 << 48, -1 << 32, -65536, -30, -22, -4, -2, -1, 0, 1, 2, 3, 4, 5, 19, 20, 21, 22, 29, 30, 31, 45, 46, 47, 56,
	255, 256, 65534, 65535, 65536, 1<<32 - 2, 1<<32 - 1, 1 << 32, 1<<48 - 2, 1<<48 - 1, 1 << 48, 1 << 56, math.MaxInt - 46, math.MaxInt - 30, math.MaxInt - 4, math.MaxInt - 3, math.MaxInt - 1, math.MaxInt}

// sameHead holds two heads against each other field by field.
func sameHead(a, b api.Head) bool {
	return a.Flags == b.Flags && a.Method == b.Method && a.Dos == b.Dos && a.Crc == b.Crc && a.Csize == b.Csize && a.Size == b.Size &&
		a.At == b.At && string(a.Name) == string(b.Name) && a.Wide == b.Wide
}

// tell is h in a line, however long its name is.
func tell(h api.Head) string {
	long := len(h.Name)
	h.Name = h.Name[:min(long, 40)]
	return fmt.Sprintf("%+v, a name of %d bytes", h, long)
}

// getter is GetLocal or GetCentral.
type getter func([]byte, int) (api.Head, int, api.Errno)

// isGot fails, unless the head and its end are told.
func isGot(t *testing.T, what string, get getter, b string, at int, want api.Head, wantEnd int) {
	t.Helper()
	h, end, e := get([]byte(b), at)
	if e != api.OK || end != wantEnd || !sameHead(h, want) {
		t.Errorf("%s: %s, %d, %v, wanted %s, %d", what, tell(h), end, e, tell(want), wantEnd)
	}
}

// isWrong fails, unless the error is told, and nothing beside it.
func isWrong(t *testing.T, what string, get getter, b string, at int, want api.Errno) {
	t.Helper()
	h, end, e := get([]byte(b), at)
	if e != want || end != 0 || !sameHead(h, api.Head{}) || len(h.Name) != 0 {
		t.Errorf("%s: %s, %d, %v, wanted %v alone", what, tell(h), end, e, want)
	}
}

// isFound fails, unless the tail is told.
func isFound(t *testing.T, what, b string, want api.Tail) {
	t.Helper()
	if x, e := Find([]byte(b)); x != want || e != api.OK {
		t.Errorf("%s: %v, %v, wanted %v", what, x, e, want)
	}
}

// isLost fails, unless it is told that there is no tail.
func isLost(t *testing.T, what, b string) {
	t.Helper()
	if x, e := Find([]byte(b)); x != (api.Tail{}) || e != api.ErrForm {
		t.Errorf("%s: %v, %v, wanted %v alone", what, x, e, api.ErrForm)
	}
}

// with is the text with another one from there on; below 0 the place counts from the end.
func with(s string, at int, part string) string {
	if at < 0 {
		at += len(s)
	}
	b := []byte(s)
	copy(b[at:], part)
	return string(b)
}

// named is h with this name.
func named(h api.Head, name string) api.Head {
	h.Name = slices.Clone([]byte(name))
	return h
}
