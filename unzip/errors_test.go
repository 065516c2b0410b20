package unzip

import (
	"strings"
	"testing"

	"inquest/api"
)

// spoilt are ways of not being right: of the archive as a whole, or of its entry i, in the order in which they are told. What stands at one place in that order has one number.
var spoilt = []struct {
	what   string
	at     int
	change func(w *whole, i int)
	e      api.Errno
}{
	{"a name that can't be decoded", 1, func(w *whole, i int) {
		w.parts[i].both(func(r *raw) { r.name, r.flags = "\xff", r.flags|api.Utf8 })
	}, api.ErrForm},
	{"a name that may not be", 1, func(w *whole, i int) { w.parts[i].both(func(r *raw) { r.name = "a\x1f" }) }, api.ErrForm},
	{"no name", 1, func(w *whole, i int) { w.parts[i].both(func(r *raw) { r.name = "" }) }, api.ErrForm},
	{"a name that is too long", 1, func(w *whole, i int) {
		w.parts[i].both(func(r *raw) { r.name = strings.Repeat("n", 41) })
	}, api.ErrForm},
	{"a name that came ahead", 2, func(w *whole, i int) { w.parts[i].both(func(r *raw) { r.name = "one.txt" }) }, api.ErrTwice},
	{"the bit 1", 3, func(w *whole, i int) { w.parts[i].both(func(r *raw) { r.flags |= 1 }) }, api.ErrMethod},
	{"the bit 1, in the central head alone", 3, func(w *whole, i int) { w.parts[i].central.flags |= 1 }, api.ErrMethod},
	{"the bit 1, and all others", 3, func(w *whole, i int) {
		w.parts[i].both(func(r *raw) { r.flags = 0xffff &^ (api.Utf8 | api.Described) })
	}, api.ErrMethod},
	{"the method 1", 3, func(w *whole, i int) { w.parts[i].both(func(r *raw) { r.method = 1 }) }, api.ErrMethod},
	{"the method 7", 3, func(w *whole, i int) { w.parts[i].both(func(r *raw) { r.method = 7 }) }, api.ErrMethod},
	{"the method 9, in the central head alone", 3, func(w *whole, i int) { w.parts[i].central.method = 9 }, api.ErrMethod},
	{"the method 65535", 3, func(w *whole, i int) { w.parts[i].both(func(r *raw) { r.method = 65535 }) }, api.ErrMethod},
	{"the method 256", 3, func(w *whole, i int) { w.parts[i].both(func(r *raw) { r.method = 256 }) }, api.ErrMethod},
	{"no local head there", 4, func(w *whole, i int) { w.parts[i].central.at++ }, api.ErrForm},
	{"a local head that isn't one", 4, func(w *whole, i int) { w.parts[i].local.mark = "PK\x01\x02" }, api.ErrForm},
	{"a local head beyond the end", 4, func(w *whole, i int) { w.parts[i].central.at += 1 << 20 }, api.ErrEnd},
	{"a local head that goes beyond the end", 4, func(w *whole, i int) { w.parts[i].local.moreName = 60000 }, api.ErrEnd},
	{"items that go beyond their end", 4, func(w *whole, i int) { w.parts[i].local.beside = "\x07\x00\x03\x00ab" }, api.ErrForm},
	{"a wide local head without the item", 4, func(w *whole, i int) { w.parts[i].local.csize = 0xffffffff }, api.ErrForm},
	{"another name there", 5, func(w *whole, i int) { w.parts[i].local.name = "another" }, api.ErrForm},
	{"no name there", 5, func(w *whole, i int) { w.parts[i].local.name = "" }, api.ErrForm},
	{"a longer name there", 5, func(w *whole, i int) { w.parts[i].local.name += "x" }, api.ErrForm},
	{"a shorter name there", 5, func(w *whole, i int) { w.parts[i].local.name = w.parts[i].local.name[:3] }, api.ErrForm},
	{"another name there, of these letters", 5, func(w *whole, i int) {
		w.parts[i].local.name = strings.ToUpper(w.parts[i].local.name)
	}, api.ErrForm},
	{"the other method there", 5, func(w *whole, i int) { w.parts[i].local.method = 8 - w.parts[i].central.method }, api.ErrForm},
	{"another method there", 5, func(w *whole, i int) { w.parts[i].local.method = 9 }, api.ErrForm},
	{"another sum there", 5, func(w *whole, i int) { itself(w, i).crc ^= 1 << 31 }, api.ErrForm},
	{"no sum there", 5, func(w *whole, i int) { itself(w, i).crc = 0 }, api.ErrForm},
	{"another packed size there", 5, func(w *whole, i int) { itself(w, i).csize++ }, api.ErrForm},
	{"another size there", 5, func(w *whole, i int) { itself(w, i).size-- }, api.ErrForm},
	{"no sizes there", 5, func(w *whole, i int) { itself(w, i).size, w.parts[i].local.csize = 0, 0 }, api.ErrForm},
	{"sizes that are exchanged there", 5, func(w *whole, i int) {
		r := &w.parts[i].central
		r.csize += 3
		itself(w, i).size, w.parts[i].local.csize = r.csize, r.size
	}, api.ErrForm},
	{"another packed size, described in the central head alone", 5, func(w *whole, i int) {
		itself(w, i).csize--
		w.parts[i].central.flags |= api.Described
	}, api.ErrForm},
	{"another name there, described", 5, func(w *whole, i int) { described(w, i); w.parts[i].local.name = "another" }, api.ErrForm},
	{"the other method there, described", 5, func(w *whole, i int) {
		described(w, i)
		w.parts[i].local.method = 8 - w.parts[i].central.method
	}, api.ErrForm},
	{"data beyond where the heads begin", 6, func(w *whole, i int) { w.parts[i].both(func(r *raw) { r.csize += 100000 }) }, api.ErrEnd},
	{"data far beyond", 6, func(w *whole, i int) { w.parts[i].both(func(r *raw) { r.csize = 0xfffffffe }) }, api.ErrEnd},
	{"data beyond, described", 6, func(w *whole, i int) { described(w, i); w.parts[i].central.csize += 100000 }, api.ErrEnd},
	{"a method 0 whose size is greater", 7, func(w *whole, i int) { w.parts[i].both(func(r *raw) { r.size += 7 }) }, api.ErrSize},
	{"a method 0 whose size is less", 7, func(w *whole, i int) { w.parts[i].both(func(r *raw) { r.size-- }) }, api.ErrSize},
	{"a method 0 whose size is 0", 7, func(w *whole, i int) { w.parts[i].both(func(r *raw) { r.size = 0 }) }, api.ErrSize},
	{"a method 0 whose packed size is less", 7, func(w *whole, i int) { w.parts[i].both(func(r *raw) { r.csize-- }) }, api.ErrSize},
	{"a method 0 whose size is another one, described", 7, func(w *whole, i int) { described(w, i); w.parts[i].central.size++ }, api.ErrSize},
}

// described has the entry's sum and sizes stand behind its data.
func described(w *whole, i int) {
	w.parts[i].both(func(r *raw) { r.flags |= api.Described })
	w.parts[i].local.crc, w.parts[i].local.csize, w.parts[i].local.size = 0, 0, 0
}

// itself has the entry's local head tell sum and sizes itself, and is that.
func itself(w *whole, i int) *raw {
	r, c := &w.parts[i].local, w.parts[i].central
	r.flags &^= api.Described
	r.crc, r.csize, r.size = c.crc, c.csize, c.size
	return r
}

// errors4 is an archive of four plain entries.
func errors4() whole {
	return whole{parts: []part{plainPart("one.txt", "hello"), plainPart("two.txt", "hello, hello"), plainPart("three.txt", "three"), plainPart("four.txt", "four")}}
}

// P11.1: each error of an entry alone, whichever entry has it.
func TestEntryErrors(t *testing.T) {
	opens(t, "as it is", errors4().bytes(), placed(errors4()), api.OK)
	for _, c := range spoilt {
		for i := range 4 {
			if c.at == 2 && i == 0 {
				continue
			}
			w := errors4()
			c.change(&w, i)
			opens(t, c.what, w.bytes(), nil, c.e)
		}
	}
}

// P11.1, R2: of two errors of an entry the one that the chapter names first is told.
func TestTwoErrorsOfAnEntry(t *testing.T) {
	for _, first := range spoilt {
		for _, second := range spoilt {
			if first.at >= second.at || first.e == second.e {
				continue
			}
			w := errors4()
			second.change(&w, 3)
			first.change(&w, 3)
			opens(t, first.what+", and "+second.what, w.bytes(), nil, first.e)
		}
	}
}

// P11.1, R2: of the errors of two entries that of the first one is told, whatever it is.
func TestErrorsOfTwoEntries(t *testing.T) {
	for _, first := range spoilt {
		for _, second := range spoilt {
			if first.e == second.e {
				continue
			}
			w := errors4()
			second.change(&w, 2)
			first.change(&w, 1)
			opens(t, first.what+", and then "+second.what, w.bytes(), nil, first.e)
		}
	}
}

// P11.1, R2: errors of the tail, and then of the central heads, are told ahead of those of entries.
func TestErrorsOfTheWhole(t *testing.T) {
	lost := packedPart("lost", "lost").central
	lost.moreName = 60000
	wholes := []struct {
		what   string
		change func(w *whole)
		e      api.Errno
	}{
		{"no tail", func(w *whole) { w.comment = "PK\x05\x06"; w.behind = "" }, api.ErrForm},
		{"heads beyond the end", func(w *whole) { w.long += 1 << 20 }, api.ErrEnd},
		{"heads elsewhere beyond the end", func(w *whole) { w.at += 1 << 20 }, api.ErrEnd},
		{"1001", func(w *whole) { w.many = 997 }, api.ErrMany},
		{"a head that goes beyond the end", func(w *whole) { w.many, w.behind = 1, lost.central(0) }, api.ErrEnd},
		{"Long is more", func(w *whole) { w.long++ }, api.ErrForm},
	}
	for i, first := range wholes {
		for _, second := range wholes[i+1:] {
			if i == 0 || first.e == second.e {
				continue
			}
			w := errors4()
			second.change(&w)
			first.change(&w)
			opens(t, first.what+", and "+second.what, w.bytes(), nil, first.e)
		}
		for _, second := range spoilt {
			w := errors4()
			second.change(&w, 1)
			first.change(&w)
			b := w.bytes()
			if i == 0 {
				b = b[:len(b)-1]
			}
			opens(t, first.what+", and "+second.what, b, nil, first.e)
		}
	}
}

// P11.1: with Described in the local head's flags its sum and sizes are nothing; in the central head's alone that is nothing.
func TestDescribed(t *testing.T) {
	for _, c := range []struct {
		what           string
		central, local int
		change         func(r *raw)
		e              api.Errno
	}{
		{"none", 0, 0, func(r *raw) {}, api.OK},
		{"both", 8, 8, func(r *raw) {}, api.OK},
		{"both, nothing there", 8, 8, func(r *raw) { r.crc, r.csize, r.size = 0, 0, 0 }, api.OK},
		{"both, others there", 8, 8, func(r *raw) { r.crc, r.csize, r.size = 1, 2, 3 }, api.OK},
		{"both, and other bits", 0x0e, 0xfff8, func(r *raw) { r.crc = 1 }, api.OK},
		{"local, nothing there", 0, 8, func(r *raw) { r.crc, r.csize, r.size = 0, 0, 0 }, api.OK},
		{"central", 8, 0, func(r *raw) {}, api.OK},
		{"central, nothing there", 8, 0, func(r *raw) { r.crc, r.csize, r.size = 0, 0, 0 }, api.ErrForm},
		{"central, another sum", 8, 0, func(r *raw) { r.crc++ }, api.ErrForm},
		{"central, another packed size", 8, 0, func(r *raw) { r.csize++ }, api.ErrForm},
		{"central, another size", 8, 0, func(r *raw) { r.size++ }, api.ErrForm},
		{"other bits, nothing there", 0xfff6 &^ api.Utf8, 0xfff7, func(r *raw) { r.crc, r.csize, r.size = 0, 0, 0 }, api.ErrForm},
	} {
		for i := range 3 {
			w := some()
			w.parts[i].central.flags, w.parts[i].local.flags = c.central, c.local
			c.change(&w.parts[i].local)
			w.parts[i].behind = strings.Repeat("behind", 4)
			l := placed(w)
			if c.e != api.OK {
				l = nil
			}
			opens(t, c.what, w.bytes(), l, c.e)
		}
	}
}

// P11.1: data reach to where the central heads begin at the farthest; also data of no bytes begin no farther.
func TestDataReach(t *testing.T) {
	for _, of := range []func(name, content string) part{plainPart, packedPart} {
		for _, between := range []string{"", "b", "between"} {
			for more := range len(between) + 3 {
				w := some()
				w.between = between
				w.parts[2] = of("three", "three")
				w.parts[2].both(func(r *raw) { r.csize += more; r.size += more })
				l, e := placed(w), api.OK
				if more > len(between) {
					l, e = nil, api.ErrEnd
				}
				opens(t, "data that are longer", w.bytes(), l, e)
			}
		}
	}
	for _, p := range []part{plainPart("empty", ""), plainPart("full", "full")} {
		w := whole{parts: []part{p}}
		opens(t, "to the heads", w.bytes(), placed(w), api.OK)
		// The central head begins within the local one, whose name's last byte, or more, is the central mark.
		heads, at := w.heads()
		central := heads[at:]
		for back := range 5 {
			local := p.local
			local.beside = "\x07\x00\x04\x00" + "1234"[:4-back] + central[:back]
			b := local.local()
			begins := len(b) - back
			b += p.data + central[back:]
			if back > 0 && p.data != "" {
				continue
			}
			tail := join("PK\x05\x06", n2(0), n2(0), n2(1), n2(1), n4(len(central)), n4(begins+len(p.data)), n2(0))
			l, e := []api.File{p.file(len(local.local()))}, api.OK
			if back > 0 {
				l, e = nil, api.ErrEnd
			}
			opens(t, "the central head begins within the local one", []byte(b+tail), l, e)
		}
	}
	// The heads stand ahead of all local heads.
	p := plainPart("empty", "")
	p.central.at = len(p.central.central(0))
	b := p.central.central(0) + p.local.local() + join("PK\x05\x06", n2(0), n2(0), n2(1), n2(1), n4(len(p.central.central(0))), n4(0), n2(0))
	opens(t, "heads ahead", []byte(b), nil, api.ErrEnd)
}

// P11.1: data may be shared, and sizes of packed data are anything.
func TestWhatIsAllowed(t *testing.T) {
	w := whole{parts: []part{packedPart("outer", "outer"), plainPart("inner", "inner")}}
	inner := w.parts[1].local.local() + w.parts[1].data
	w.parts[0].data += inner
	w.parts[0].both(func(r *raw) { r.csize += len(inner) })
	heads, at := whole{parts: w.parts[:1]}.heads()
	second := w.parts[1].central.central(at - len(inner))
	b := heads + second + join("PK\x05\x06", n2(0), n2(0), n2(2), n2(2), n4(len(heads)-at+len(second)), n4(at), n2(0))
	outer := len(w.parts[0].local.local())
	opens(t, "an entry within another one's data", []byte(b), []api.File{w.parts[0].file(outer), w.parts[1].file(at - len("inner"))}, api.OK)
	for _, n := range []int{0, 1, 1 << 24, 1<<24 + 1, 0xfffffffe} {
		w := some()
		w.parts[1].both(func(r *raw) { r.size = n })
		opens(t, "a size", w.bytes(), placed(w), api.OK)
	}
}
