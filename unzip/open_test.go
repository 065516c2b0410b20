package unzip

import (
	"strconv"
	"strings"
	"testing"

	"inquest/api"
	"inquest/record"
)

// nothing is a tail of nothing.
const nothing = "PK\x05\x06\x00\x00\x00\x00\x00\x00\x00\x00\x00\x00\x00\x00\x00\x00\x00\x00\x00\x00"

// byHand is an archive of a.txt, which is hello, plain, and of b, which is a, packed, written out.
const byHand = "PK\x03\x04\x14\x00\x00\x00\x00\x00\x01\x02\x5d\x58\x86\xa6\x10\x36\x05\x00\x00\x00\x05\x00\x00\x00\x05\x00\x00\x00a.txthello" +
	"PK\x03\x04\x14\x00\x00\x00\x08\x00\x00\x00\x21\x00\x43\xbe\xb7\xe8\x03\x00\x00\x00\x01\x00\x00\x00\x01\x00\x00\x00b\x4b\x04\x00" +
	"PK\x01\x02\x14\x00\x14\x00\x00\x00\x00\x00\x01\x02\x5d\x58\x86\xa6\x10\x36\x05\x00\x00\x00\x05\x00\x00\x00\x05\x00\x00\x00\x00\x00\x00\x00\x00\x00\x00\x00\x00\x00\x00\x00\x00\x00a.txt" +
	"PK\x01\x02\x14\x00\x14\x00\x00\x00\x08\x00\x00\x00\x21\x00\x43\xbe\xb7\xe8\x03\x00\x00\x00\x01\x00\x00\x00\x01\x00\x00\x00\x00\x00\x00\x00\x00\x00\x00\x00\x00\x00\x28\x00\x00\x00b" +
	"PK\x05\x06\x00\x00\x00\x00\x02\x00\x02\x00\x62\x00\x00\x00\x4a\x00\x00\x00\x00\x00"

// P11.1: an archive of nothing has no entries, whatever stands ahead, or behind.
func TestNoEntries(t *testing.T) {
	opens(t, "22 bytes", []byte(nothing), nil, api.OK)
	for _, w := range []whole{{}, {ahead: "ahead"}, {ahead: nothing}, {comment: "comment"}, {behind: "behind"}, {ahead: strings.Repeat("-", 70000), comment: "c"}} {
		opens(t, "no entries", w.bytes(), nil, api.OK)
	}
}

// P11.1, P11.2: an archive that is written out by hand.
func TestByHand(t *testing.T) {
	b := []byte(byHand)
	files := []api.File{
		{Name: "a.txt", Method: 0, Dos: 0x585d0201, Crc: 0x3610a686, Csize: 5, Size: 5, At: 35},
		{Name: "b", Method: 8, Dos: 2162688, Crc: 0xe8b7be43, Csize: 3, Size: 1, At: 71},
	}
	opens(t, "by hand", b, files, api.OK)
	brings(t, "a.txt", b, files[0], "hello", api.OK, 1, 2, 4, 5, 6, 100)
	brings(t, "b", b, files[1], "a", api.OK, 1, 2, 100)
}

// some is an archive of three entries.
func some() whole {
	return whole{parts: []part{plainPart("one.txt", "hello"), packedPart("b/two", strings.Repeat("two ", 9)), plainPart("three", "three, and more")}}
}

// placed are the files of an archive whose parts stand one behind the other.
func placed(w whole) []api.File {
	var l []api.File
	at := len(w.ahead)
	for _, p := range w.parts {
		l = append(l, p.file(at+len(p.local.local())))
		at += len(p.local.local() + p.data + p.behind)
	}
	return l
}

// P11.1: entries are told in the order of the central heads, with what stands there, whatever stands between, ahead and behind.
func TestEntries(t *testing.T) {
	opens(t, "three", some().bytes(), placed(some()), api.OK)
	for _, change := range []func(w *whole){
		func(w *whole) { w.ahead = "ahead" },
		func(w *whole) { w.ahead = byHand },
		func(w *whole) { w.between = "between" },
		func(w *whole) { w.behind = "behind" },
		func(w *whole) { w.comment = "comment" },
		func(w *whole) { w.parts[1].behind = "gap"; w.parts[2].behind = byHand },
		func(w *whole) { w.parts[0].local.beside = "\x07\x00\x02\x00ab" },
		func(w *whole) { w.parts[1].central.beside = "\x07\x00\x02\x00ab" },
		func(w *whole) { w.parts[2].central.comment = "comment" },
		func(w *whole) { w.parts[0].central.version = 63 },
		func(w *whole) { w.parts[0].local.version, w.parts[0].local.dos = 10, 77 },
		func(w *whole) { w.parts[0].local.flags = 1 | api.Utf8 },
		func(w *whole) { w.parts[1].local.flags = 6; w.parts[2].central.flags = 0xfffe &^ api.Described },
		func(w *whole) { w.parts[1].both(func(r *raw) { r.dos = 0xffffffff }) },
		func(w *whole) { w.parts[1].both(func(r *raw) { r.dos = 0 }) },
		func(w *whole) { w.parts[1].both(func(r *raw) { r.crc = 0xffffffff }) },
		func(w *whole) { w.parts[1].both(func(r *raw) { r.crc = 0 }) },
		func(w *whole) { w.parts[1].both(func(r *raw) { r.size = 0xfffffffe }) },
		func(w *whole) { w.parts[1].both(func(r *raw) { r.size = 0 }) },
		func(w *whole) { w.parts[1].both(func(r *raw) { r.csize = 0 }) },
		func(w *whole) { w.parts[1].data = "nothing packed" },
		func(w *whole) { w.parts = w.parts[:1] },
	} {
		w := some()
		change(&w)
		opens(t, "changed", w.bytes(), placed(w), api.OK)
	}
}

// P11.1: the central heads' order counts, wherever their local heads stand.
func TestOrder(t *testing.T) {
	w := some()
	l := placed(w)
	far := l[2].At - len(w.parts[2].local.local()) - (l[0].At - len(w.parts[0].local.local()))
	w.parts[0].central, w.parts[2].central = w.parts[2].central, w.parts[0].central
	w.parts[0].central.at, w.parts[2].central.at = far, -far
	opens(t, "another order", w.bytes(), []api.File{l[2], l[1], l[0]}, api.OK)
}

// P11.1: names are by the code page, or UTF-8, as the central head's flags tell; they must be right, and may be an entry's.
func TestNames(t *testing.T) {
	for _, c := range []struct {
		raw   string
		flags int
		name  string
		e     api.Errno
	}{
		{"a", 0, "a", api.OK},
		{"a", api.Utf8, "a", api.OK},
		{"\x82t\x82", 0, "été", api.OK},
		{"\x82t\x82", api.Utf8, "", api.ErrForm},
		{"été", api.Utf8, "été", api.OK},
		{"é", 0, "├⌐", api.OK},
		{"é", 0xffff &^ (api.Utf8 | 1), "├⌐", api.OK},
		{"é", 0xfffe, "é", api.OK},
		{"\xff", 0, "\u00a0", api.OK},
		{"\xff", api.Utf8, "", api.ErrForm},
		{"\xff", 0xffff, "", api.ErrForm},
		{"\xff", api.Utf8 - 1, "", api.ErrMethod},
		{"\xed\xa0\x80", api.Utf8, "", api.ErrForm},
		{"", 0, "", api.ErrForm},
		{"", api.Utf8, "", api.ErrForm},
		{"a\x1f", 0, "", api.ErrForm},
		{"\x00", api.Utf8, "", api.ErrForm},
		{"\x7f", 0, "", api.ErrForm},
		{"\x7f", api.Utf8, "", api.ErrForm},
		{" ", 0, " ", api.OK},
		{"../up", 0, "../up", api.OK},
		{strings.Repeat("n", 40), 0, strings.Repeat("n", 40), api.OK},
		{strings.Repeat("n", 41), 0, "", api.ErrForm},
		{strings.Repeat("\x82", 20), 0, strings.Repeat("é", 20), api.OK},
		{strings.Repeat("\x82", 20) + "a", 0, "", api.ErrForm},
		{strings.Repeat("é", 20), api.Utf8, strings.Repeat("é", 20), api.OK},
		{strings.Repeat("é", 20) + "a", api.Utf8, "", api.ErrForm},
	} {
		w := some()
		w.parts[1].both(func(r *raw) { r.name = c.raw })
		w.parts[1].central.flags = c.flags
		l := placed(w)
		l[1].Name = c.name
		if c.e != api.OK {
			l = nil
		}
		opens(t, strconv.Quote(c.raw)+" by flags "+strconv.Itoa(c.flags), w.bytes(), l, c.e)
	}
}

// P11.1: ErrTwice is told of names that are one as they are decoded, whatever their bytes are.
func TestNamesThatCameAhead(t *testing.T) {
	for _, c := range []struct {
		first, second string
		utf8          int
		e             api.Errno
	}{
		{"a", "a", 0, api.ErrTwice},
		{"a", "a", api.Utf8, api.ErrTwice},
		{"\x82", "é", api.Utf8, api.ErrTwice},
		{"\x82", "é", 0, api.OK},
		{"é", "é", 0, api.ErrTwice},
		{"é", "é", api.Utf8, api.OK},
		{"a", "A", 0, api.OK},
		{"a", "a/", 0, api.OK},
		{"é", "e\u0301", api.Utf8, api.OK},
	} {
		for _, places := range [][2]int{{0, 1}, {0, 2}, {1, 2}} {
			w := some()
			w.parts[places[0]].both(func(r *raw) { r.name = c.first })
			w.parts[places[1]].both(func(r *raw) { r.name, r.flags = c.second, c.utf8 })
			if l, e := Open(w.bytes()); e != c.e || (e == api.OK) != (len(l) == 3) {
				t.Errorf("%q and %q: %v, %v, wanted %v", c.first, c.second, l, e, c.e)
			}
		}
	}
}

// P11.1: there are at most 1000 entries; more aren't read, whatever they are.
func TestHowMany(t *testing.T) {
	var w whole
	for i := range 1001 {
		w.parts = append(w.parts, plainPart("n"+strconv.Itoa(i), strconv.Itoa(i)))
	}
	opens(t, "1001", w.bytes(), nil, api.ErrMany)
	w.parts = w.parts[:1000]
	opens(t, "1000", w.bytes(), placed(w), api.OK)
	for _, n := range []int{1001, 1002, 65534} {
		few := some()
		few.many = n - 3
		opens(t, strconv.Itoa(n)+" told", few.bytes(), nil, api.ErrMany)
		few.long = 1 << 20
		opens(t, strconv.Itoa(n)+" told, beyond the end", few.bytes(), nil, api.ErrEnd)
	}
	few := some()
	few.many = 997
	opens(t, "1000 told, of which there are three", few.bytes(), nil, api.ErrForm)
	for _, n := range []int{1000, 1001, 1 << 16, 1 << 40, 1<<48 - 1} {
		tail, _ := record.End(api.Tail{Many: n, Wide: true}, 0)
		e := api.ErrMany
		if n == 1000 {
			e = api.ErrForm
		}
		opens(t, "wide", tail, nil, e)
	}
}

// P11.1: the heads reach to the archive's end at the farthest.
func TestHeadsReach(t *testing.T) {
	// The last head's comment has the tail.
	w := some()
	w.parts[2].central.comment = strings.Repeat("-", 22)
	heads, at := w.heads()
	for more := -1; more <= 1; more++ {
		tail, _ := record.End(api.Tail{Many: 3, Long: len(heads) - at + more, At: at}, 0)
		b := append([]byte(heads)[:len(heads)-22], tail...)
		switch more {
		case 0:
			opens(t, "to the end", b, placed(w), api.OK)
		case 1:
			opens(t, "one byte beyond", b, nil, api.ErrEnd)
		default:
			opens(t, "one byte less", b, nil, api.ErrForm)
		}
	}
	for _, c := range []struct {
		many, long, at int
		e              api.Errno
	}{
		{0, 0, 0, api.OK}, {0, 0, 1, api.OK}, {0, 0, 22, api.OK}, {0, 0, 23, api.ErrEnd}, {0, 0, 1000, api.ErrEnd}, {0, 0, 0xfffffffe, api.ErrEnd},
		{0, 1, 0, api.ErrForm}, {0, 22, 0, api.ErrForm}, {0, 23, 0, api.ErrEnd}, {0, 1, 21, api.ErrForm}, {0, 1, 22, api.ErrEnd}, {0, 0xfffffffe, 0, api.ErrEnd},
		{1, 0, 0, api.ErrForm}, {1, 0, 19, api.ErrEnd}, {1, 0, 22, api.ErrEnd}, {1, 46, 0, api.ErrEnd}, {1001, 22, 0, api.ErrMany}, {1001, 23, 0, api.ErrEnd}, {1001, 0, 23, api.ErrEnd},
	} {
		tail, _ := record.End(api.Tail{Many: c.many, Long: c.long, At: c.at}, 0)
		opens(t, strconv.Itoa(c.many)+" "+strconv.Itoa(c.long)+" "+strconv.Itoa(c.at), tail, nil, c.e)
		if c.long > 1000 || c.at > 1000 {
			c.long, c.at = c.long<<15, c.at<<15
			tail, _ = record.End(api.Tail{Many: c.many, Long: c.long, At: c.at, Wide: true}, 0)
			opens(t, "wide", tail, nil, c.e)
		}
	}
	tail, _ := record.End(api.Tail{Long: 1<<48 - 1, At: 1<<48 - 1, Wide: true}, 0)
	opens(t, "as far as there may be", tail, nil, api.ErrEnd)
}

// P11.1: just as many bytes are read as Long tells.
func TestLong(t *testing.T) {
	heads, at := some().heads()
	for _, more := range []int{at - len(heads), -100, -47, -46, -2, -1, 0, 1, 2, 22} {
		w := some()
		w.long = more
		if more == 0 {
			opens(t, "as it is", w.bytes(), placed(w), api.OK)
		} else {
			opens(t, strconv.Itoa(more)+" more", w.bytes(), nil, api.ErrForm)
		}
	}
}

// P11.1: just as many heads are read as the tail tells.
func TestMany(t *testing.T) {
	for fewer := 1; fewer <= 3; fewer++ {
		w := some()
		w.many = -fewer
		opens(t, strconv.Itoa(fewer)+" fewer", w.bytes(), nil, api.ErrForm)
		for _, p := range w.parts[3-fewer:] {
			w.long -= len(p.central.central(0))
		}
		opens(t, strconv.Itoa(fewer)+" fewer, and that long", w.bytes(), placed(w)[:3-fewer], api.OK)
	}
	w := some()
	w.many = 1
	opens(t, "one more", w.bytes(), nil, api.ErrForm)
	w.behind = w.parts[0].central.central(0)
	opens(t, "one more, beyond what Long tells", w.bytes(), nil, api.ErrForm)
}

// P11.1: bytes without a tail are no archive; nor are those whose heads lie elsewhere.
func TestNoArchive(t *testing.T) {
	for n := range 22 {
		opens(t, "cut", []byte(nothing[:n]), nil, api.ErrForm)
	}
	for _, s := range []string{"", "PK", byHand[:len(byHand)-1], byHand + "x", strings.Repeat("\x00", 100), "00"} {
		opens(t, "no tail", []byte(s), nil, api.ErrForm)
	}
	for at := -4; at <= 4; at++ {
		w := some()
		w.at = at
		if at != 0 {
			opens(t, "elsewhere", w.bytes(), nil, api.ErrForm)
		}
	}
	for _, s := range []string{"x", nothing, byHand[1:]} {
		opens(t, "bytes ahead that aren't counted", []byte(s+byHand), nil, api.ErrForm)
	}
	opens(t, "an archive ahead", []byte(byHand+nothing), nil, api.OK)
}

// P11.1: central heads' errors are told.
func TestCentralHeads(t *testing.T) {
	for i := range 3 {
		for _, c := range []struct {
			change func(r *raw)
			e      api.Errno
		}{
			{func(r *raw) { r.mark = "PK\x03\x04" }, api.ErrForm},
			{func(r *raw) { r.mark = "\x00\x00\x00\x00" }, api.ErrForm},
			{func(r *raw) { r.moreName = 1 }, api.ErrForm},
			{func(r *raw) { r.moreName = 60000 }, api.ErrEnd},
			{func(r *raw) { r.beside = "\x07\x00\x03\x00ab" }, api.ErrForm},
			{func(r *raw) { r.beside = "abc" }, api.ErrForm},
			{func(r *raw) { r.csize = 0xffffffff }, api.ErrForm},
			{func(r *raw) { r.size = 0xffffffff }, api.ErrForm},
		} {
			w := some()
			c.change(&w.parts[i].central)
			opens(t, "central head "+strconv.Itoa(i), w.bytes(), nil, c.e)
		}
	}
}
