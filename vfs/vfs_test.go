package vfs

import (
	"bytes"
	"math"
	"slices"
	"strings"
	"testing"

	"inquest/api"
)

// step is what a call answered, and what it should have.
type step struct{ got, want api.Errno }

// check holds steps, which were done in their order, against what was wanted.
func check(t *testing.T, l ...step) {
	t.Helper()
	for i, s := range l {
		if s.got != s.want {
			t.Errorf("step %d: %d, wanted %d", i, s.got, s.want)
		}
	}
}

// with is a store of so many sectors with these files, a name and its bytes each, all synced.
func with(sectors int, l ...string) *FS {
	f := New(sectors)
	for i := 0; i < len(l); i += 2 {
		f.Create(l[i])
		f.Write(l[i], 0, []byte(l[i+1]))
		f.Sync(l[i])
	}
	return f
}

// whole are all bytes of the file; "?" if there is none.
func whole(f *FS, name string) string {
	n, is := f.Len(name)
	if !is {
		return "?"
	}
	b, e := f.Read(name, 0, n)
	if e != api.OK {
		return "error " + e.Error()
	}
	return string(b)
}

// has tells where a file isn't as it should be.
func has(t *testing.T, f *FS, name, want string) {
	t.Helper()
	if got := whole(f, name); got != want {
		t.Errorf("%s: %q, wanted %q", name, got, want)
	}
}

// stands tells where the store hasn't so many sectors free, and so many that wait.
func stands(t *testing.T, f *FS, room, waits int) {
	t.Helper()
	if f.Room() != room || f.Waits() != waits {
		t.Errorf("%d are free, %d wait; wanted %d, %d", f.Room(), f.Waits(), room, waits)
	}
}

func many(c string, n int) string { return strings.Repeat(c, n) }

func zeros(n int) string { return many("\x00", n) }

var extremes = []int{math.MinInt, math.MinInt + 1, math.MinInt32, -65, -64, -1, 0, 1, 2, 63, 64, 65, 127, 128, 129, 130, 131, 65536, math.MaxInt32, math.MaxInt - 64, math.MaxInt - 1, math.MaxInt}

// P3.1: New holds sectors within 1 to 65536, and the store is up, without files.
func TestNew(t *testing.T) {
	for _, c := range [][2]int{{math.MinInt, 1}, {-1, 1}, {0, 1}, {1, 1}, {2, 2}, {1000, 1000}, {65535, 65535}, {65536, 65536}, {65537, 65536}, {math.MaxInt, 65536}} {
		f := New(c[0])
		if f.Room() != c[1] || f.Down() || f.Waits() != 0 || len(f.Names("")) != 0 {
			t.Errorf("New(%d): %d free, down %v", c[0], f.Room(), f.Down())
		}
		check(t, step{f.Create("a"), api.OK}, step{f.Write("a", 0, make([]byte, 64*c[1]+1)), api.ErrFull}, step{f.Write("a", 0, make([]byte, 64*c[1])), api.OK})
		stands(t, f, 0, c[1])
	}
}

// P3.1: which names are right, told by Create and by Rename.
func TestNames(t *testing.T) {
	for name, e := range map[string]api.Errno{
		"":                                   api.ErrArg,
		"a":                                  api.OK,
		"z":                                  api.OK,
		"0":                                  api.OK,
		"9":                                  api.OK,
		".":                                  api.OK,
		"-":                                  api.OK,
		"/":                                  api.OK,
		"..//--":                             api.OK,
		"b/two.zip":                          api.OK,
		many("a", 23):                        api.OK,
		many("a", 24):                        api.OK,
		many("a", 25):                        api.ErrArg,
		many("a", 1<<16):                     api.ErrArg,
		"A":                                  api.ErrArg,
		"Z":                                  api.ErrArg,
		"aB":                                 api.ErrArg,
		"Ba":                                 api.ErrArg,
		"a b":                                api.ErrArg,
		" a":                                 api.ErrArg,
		"a_b":                                api.ErrArg,
		"a\x00":                              api.ErrArg,
		"a\xff":                              api.ErrArg,
		"é":                                  api.ErrArg,
		"ａ":                                  api.ErrArg,
		"a\n":                                api.ErrArg,
		many("a", 23) + "A":                  api.ErrArg,
		"abcdefghijklmnopqrstuvwx":           api.OK,
		"yz0123456789.-/":                    api.OK,
		"\u0430\u0431":                       api.ErrArg,
		string(rune('a' + 256)):              api.ErrArg,
		many("é", 12):                        api.ErrArg,
		string([]byte{'a', 0x80, 'b', 0xe9}): api.ErrArg,
	} {
		f := with(4, "from", "x")
		check(t, step{f.Create(name), e}, step{f.Delete(name), map[bool]api.Errno{true: api.OK, false: api.ErrNone}[e == api.OK]}, step{f.Rename("from", name), e})
		if is := whole(f, name) == "x"; is != (e == api.OK) || is == (whole(f, "from") == "x") {
			t.Errorf("%q: %v", name, f.Names(""))
		}
	}
}

// P3.1: each byte alone, against what the chapter lists.
func TestNamesByBytes(t *testing.T) {
	for c := range 256 {
		want := api.ErrArg
		if strings.IndexByte("abcdefghijklmnopqrstuvwxyz0123456789.-/", byte(c)) >= 0 {
			want = api.OK
		}
		f := New(1)
		for _, name := range []string{string([]byte{byte(c)}), string([]byte{'x', byte(c), 'x'})} {
			if e := f.Create(name); e != want {
				t.Errorf("%q: %d, wanted %d", name, e, want)
			}
		}
	}
}

// P3.1: Create makes an empty file, once; the name's error is told first.
func TestCreate(t *testing.T) {
	f := New(1)
	check(t, step{f.Create("a"), api.OK}, step{f.Create("a"), api.ErrTwice}, step{f.Create("A"), api.ErrArg}, step{f.Create("b"), api.OK})
	if n, is := f.Len("a"); n != 0 || !is {
		t.Error(n, is)
	}
	stands(t, f, 1, 0)
	check(t, step{f.Write("a", 0, []byte("x")), api.OK}, step{f.Create("a"), api.ErrTwice})
	has(t, f, "a", "x")
	// A store without room has place for files without bytes.
	check(t, step{f.Create("c"), api.OK})
}

// P3.1: Write lets b stand from at on; what is behind it stays.
func TestWrite(t *testing.T) {
	f := New(4)
	f.Create("a")
	for i, c := range []struct {
		at   int
		b    string
		want string
	}{
		{0, "abc", "abc"},
		{3, "def", "abcdef"},
		{1, "XY", "aXYdef"},
		{5, "ghi", "aXYdeghi"},
		{8, many("j", 56), "aXYdeghi" + many("j", 56)},
		{64, "k", "aXYdeghi" + many("j", 56) + "k"},
		{63, "lmn", "aXYdeghi" + many("j", 55) + "lmn"},
		{0, many("o", 200), many("o", 200)},
		{64, many("p", 64), many("o", 64) + many("p", 64) + many("o", 72)},
		{10, many("q", 150), many("o", 10) + many("q", 150) + many("o", 40)},
	} {
		if e := f.Write("a", c.at, []byte(c.b)); e != api.OK || whole(f, "a") != c.want {
			t.Errorf("%d: %d, %q, wanted %q", i, e, whole(f, "a"), c.want)
		}
	}
}

// P3.1: what Write refuses, and which error goes ahead; nothing is changed then.
func TestWriteErrors(t *testing.T) {
	f := with(3, "a", many("a", 70), "b", "b")
	stamp := f.Stamp("a")
	big := make([]byte, 1000)
	check(t,
		step{f.Write("none", 0, []byte("x")), api.ErrNone},
		step{f.Write("none", -1, big), api.ErrNone},
		step{f.Write("", 0, nil), api.ErrNone},
		step{f.Write("A", 0, nil), api.ErrNone},
		step{f.Write("a", -1, []byte("x")), api.ErrArg},
		step{f.Write("a", 71, []byte("x")), api.ErrArg},
		step{f.Write("a", 71, big), api.ErrArg},
		step{f.Write("a", -1, nil), api.ErrArg},
		step{f.Write("a", 71, nil), api.ErrArg},
		step{f.Write("a", 70, big), api.ErrFull},
		step{f.Write("a", 0, big), api.ErrFull},
		step{f.Write("a", 70, make([]byte, 59)), api.ErrFull},
		step{f.Write("a", 0, make([]byte, 129)), api.ErrFull},
		step{f.Write("b", 1, make([]byte, 64)), api.ErrFull},
	)
	has(t, f, "a", many("a", 70))
	has(t, f, "b", "b")
	stands(t, f, 0, 0)
	if f.Stamp("a") != stamp {
		t.Error("a stamp was given")
	}
	// What is within the sectors that the file has needs no room.
	check(t, step{f.Write("a", 0, []byte(many("x", 70))), api.OK}, step{f.Write("a", 70, []byte(many("y", 58))), api.OK}, step{f.Write("a", 128, nil), api.OK}, step{f.Write("a", 128, []byte("z")), api.ErrFull})
	has(t, f, "a", many("x", 70)+many("y", 58))
	stands(t, f, 0, 2)
}

// P3.1: an empty Write does nothing, and gives no stamp.
func TestWriteNothing(t *testing.T) {
	f := with(1, "a", "abc")
	for _, b := range [][]byte{nil, {}, make([]byte, 0, 9)} {
		for at := range 4 {
			check(t, step{f.Write("a", at, b), api.OK})
		}
		if f.Stamp("a") != 2 || f.Waits() != 0 {
			t.Errorf("stamp %d, %d wait", f.Stamp("a"), f.Waits())
		}
	}
	has(t, f, "a", "abc")
	f.Create("b")
	if f.Stamp("b") != 3 {
		t.Error("stamp", f.Stamp("b"))
	}
}

// P3.1: Cut leaves the first bytes, frees room, and lets the last sector wait, if it is cut within.
func TestCut(t *testing.T) {
	for _, c := range []struct{ n, room, waits int }{
		{0, 5, 0}, {1, 4, 1}, {63, 4, 1}, {64, 4, 0}, {65, 3, 1}, {127, 3, 1}, {128, 3, 0}, {129, 2, 1}, {191, 2, 1}, {192, 2, 0}, {193, 1, 1}, {199, 1, 1}, {200, 1, 1},
	} {
		f := with(5, "a", many("a", 200))
		check(t, step{f.Cut("a", c.n), api.OK})
		has(t, f, "a", many("a", c.n))
		stands(t, f, c.room, c.waits)
		if f.Stamp("a") != 3 {
			t.Error("stamp", f.Stamp("a"))
		}
		// What waits, waits but once.
		check(t, step{f.Cut("a", c.n), api.OK})
		stands(t, f, c.room, c.waits)
	}
}

// P3.1: a Cut at just the end of a whole sector lets nothing wait, and gives a stamp; one of a file without bytes, too.
func TestCutOfNothing(t *testing.T) {
	f := with(5, "a", many("a", 128), "b", "")
	check(t, step{f.Cut("a", 128), api.OK}, step{f.Cut("b", 0), api.OK})
	stands(t, f, 3, 0)
	if f.Stamp("a") != 4 || f.Stamp("b") != 5 {
		t.Error(f.Stamp("a"), f.Stamp("b"))
	}
}

// P3.1: what Cut refuses.
func TestCutErrors(t *testing.T) {
	f := with(5, "a", many("a", 130))
	check(t,
		step{f.Cut("none", 0), api.ErrNone},
		step{f.Cut("none", -1), api.ErrNone},
		step{f.Cut("a", -1), api.ErrArg},
		step{f.Cut("a", math.MinInt), api.ErrArg},
		step{f.Cut("a", 131), api.ErrArg},
		step{f.Cut("a", 192), api.ErrArg},
		step{f.Cut("a", math.MaxInt), api.ErrArg},
	)
	has(t, f, "a", many("a", 130))
	stands(t, f, 2, 0)
	if f.Stamp("a") != 2 {
		t.Error("stamp", f.Stamp("a"))
	}
}

// P3.1: bytes behind a Cut are zeros, and don't come back when the file is longer again.
func TestCutBytesAreGone(t *testing.T) {
	f := with(5, "a", many("a", 128))
	f.Cut("a", 10)
	f.Sync("a")
	f.Write("a", 10, []byte("b"))
	f.Write("a", 11, []byte(many("c", 53)))
	f.Write("a", 64, []byte("d"))
	has(t, f, "a", many("a", 10)+"b"+many("c", 53)+"d")
	// Zeros in the last sector last, too: a crash that takes the write back leaves them.
	f = with(5, "a", many("a", 64))
	f.Cut("a", 10)
	f.Sync("a")
	f.Write("a", 10, []byte(many("b", 54)))
	f.Crash(0)
	has(t, f, "a", many("a", 10)+zeros(54))
}

// P3.1: Rename puts the file, what waits of it too, under the other name; what was there is gone, and its room free.
func TestRename(t *testing.T) {
	f := with(9, "a", many("a", 100), "b", many("b", 200))
	f.Write("a", 64, []byte("x"))
	f.Write("b", 0, []byte(many("y", 190)))
	stands(t, f, 3, 4)
	check(t, step{f.Rename("a", "b"), api.OK})
	has(t, f, "a", "?")
	has(t, f, "b", many("a", 64)+"x"+many("a", 35))
	stands(t, f, 7, 1)
	check(t, step{f.Rename("b", "c"), api.OK}, step{f.Create("a"), api.OK})
	has(t, f, "c", many("a", 64)+"x"+many("a", 35))
	has(t, f, "a", "")
	stands(t, f, 7, 1)
	f.Crash(0)
	has(t, f, "c", many("a", 100))
	if l := f.Names(""); !slices.Equal(l, []string{"a", "c"}) {
		t.Error(l)
	}
}

// P3.1: what Rename refuses, and which error goes ahead.
func TestRenameErrors(t *testing.T) {
	f := with(3, "a", "a", "b", "b")
	check(t,
		step{f.Rename("none", "none"), api.ErrNone},
		step{f.Rename("none", "A"), api.ErrNone},
		step{f.Rename("", ""), api.ErrNone},
		step{f.Rename("none", "b"), api.ErrNone},
		step{f.Rename("a", "A"), api.ErrArg},
		step{f.Rename("a", ""), api.ErrArg},
		step{f.Rename("a", many("x", 25)), api.ErrArg},
		step{f.Rename("a", "a"), api.ErrArg},
	)
	has(t, f, "a", "a")
	has(t, f, "b", "b")
	if f.Stamp("a") != 2 || f.Stamp("b") != 4 {
		t.Error(f.Stamp("a"), f.Stamp("b"))
	}
}

// P3.1: Delete lets a file be gone, and frees its room; what waits of it doesn't any more.
func TestDelete(t *testing.T) {
	f := with(9, "a", many("a", 100), "b", "b")
	f.Write("a", 0, []byte(many("x", 100)))
	f.Write("b", 0, []byte("y"))
	check(t, step{f.Delete("none"), api.ErrNone}, step{f.Delete(""), api.ErrNone}, step{f.Delete("a"), api.OK}, step{f.Delete("a"), api.ErrNone})
	stands(t, f, 8, 1)
	has(t, f, "a", "?")
	has(t, f, "b", "y")
	// A file that is made under the name has nothing of the old one.
	check(t, step{f.Create("a"), api.OK})
	has(t, f, "a", "")
	f.Write("a", 0, []byte("z"))
	f.Crash(0)
	has(t, f, "a", "\x00")
}

// P3.1: Sync lets nothing of that file wait, and leaves the others.
func TestSync(t *testing.T) {
	f := New(9)
	for _, name := range []string{"a", "b"} {
		f.Create(name)
		f.Write(name, 0, []byte(many(name, 130)))
	}
	check(t, step{f.Sync("none"), api.ErrNone}, step{f.Sync(""), api.ErrNone})
	stands(t, f, 3, 6)
	check(t, step{f.Sync("a"), api.OK})
	stands(t, f, 3, 3)
	check(t, step{f.Sync("a"), api.OK})
	f.Crash(0)
	has(t, f, "a", many("a", 130))
	has(t, f, "b", zeros(130))
}

// P3.1: a stamp is one more than any that the store ever gave, also to files that are gone, and through crashes.
func TestStamps(t *testing.T) {
	f := New(9)
	want := 0
	for i, c := range []struct {
		do   func() api.Errno
		name string
		is   bool // a stamp is given
	}{
		{func() api.Errno { return f.Create("a") }, "a", true},
		{func() api.Errno { return f.Create("b") }, "b", true},
		{func() api.Errno { return f.Write("a", 0, []byte("x")) }, "a", true},
		{func() api.Errno { return f.Write("a", 0, []byte("x")) }, "a", true},
		{func() api.Errno { return f.Sync("a") }, "a", false},
		{func() api.Errno { return f.Cut("a", 1) }, "a", true},
		{func() api.Errno { return f.Cut("a", 0) }, "a", true},
		{func() api.Errno { return f.Write("a", 0, nil) }, "a", false},
		{func() api.Errno { return f.Rename("b", "c") }, "c", true},
		{func() api.Errno { return f.Create("b") }, "b", true},
		{func() api.Errno { return f.Write("b", 0, []byte("y")) }, "b", true},
		{func() api.Errno { return f.Rename("c", "b") }, "b", true},
		{func() api.Errno { f.Crash(0); return api.OK }, "b", false},
		{func() api.Errno { return f.Delete("b") }, "b", false},
		{func() api.Errno { return f.Create("b") }, "b", true},
	} {
		before := f.Stamp(c.name)
		if e := c.do(); e != api.OK {
			t.Error(i, e)
		}
		got := f.Stamp(c.name)
		if c.is {
			want++
			if got != want {
				t.Errorf("%d: stamp %d, wanted %d", i, got, want)
			}
		} else if _, there := f.Len(c.name); there && got != before || !there && got != 0 {
			t.Errorf("%d: stamp %d, it was %d", i, got, before)
		}
	}
	if f.Stamp("none") != 0 || f.Stamp("") != 0 {
		t.Error("a stamp without a file")
	}
}

// P3.1: each of the calls that give a stamp gives it to that file alone.
func TestStampsOfOthersStay(t *testing.T) {
	f := with(9, "a", "a", "b", "b")
	f.Write("a", 0, []byte("x"))
	f.Cut("a", 0)
	f.Rename("a", "c")
	f.Create("d")
	f.Delete("d")
	f.Sync("b")
	f.Crash(0)
	if f.Stamp("b") != 4 || f.Stamp("c") != 7 {
		t.Error(f.Stamp("b"), f.Stamp("c"))
	}
}

// P3.2: Read tells the bytes, and what is wrong, in that order.
func TestRead(t *testing.T) {
	text := many("a", 63) + "bc" + many("d", 62) + "efg"
	f := with(9, "a", text)
	for _, at := range extremes {
		for _, n := range extremes {
			want, e := "", api.OK
			if at < 0 || n < 0 {
				e = api.ErrArg
			} else if at > 130 || n > 130-at {
				e = api.ErrEnd
			} else {
				want = text[at : at+n]
			}
			if b, got := f.Read("a", at, n); string(b) != want || got != e {
				t.Errorf("%d at %d: %q %d, wanted %q %d", n, at, b, got, want, e)
			}
			if b, got := f.Read("none", at, n); len(b) != 0 || got != api.ErrNone {
				t.Errorf("%d at %d of none: %q %d", n, at, b, got)
			}
		}
	}
}

// P3.2: every piece of a file over several sectors, those that wait, too.
func TestReadPieces(t *testing.T) {
	text := make([]byte, 200)
	for i := range text {
		text[i] = byte(i*7 + 1)
	}
	f := with(9, "a", string(text[:150]))
	f.Write("a", 100, text[100:])
	for at := 0; at <= 200; at++ {
		for n := 0; at+n <= 200; n++ {
			if b, e := f.Read("a", at, n); !bytes.Equal(b, text[at:at+n]) || e != api.OK {
				t.Fatalf("%d at %d: %x %d", n, at, b, e)
			}
		}
	}
}

// P3.2: Len tells the length, and whether there is the file.
func TestLen(t *testing.T) {
	f := with(9, "a", many("a", 130), "b", "")
	for name, want := range map[string]int{"a": 130, "b": 0, "c": -1, "": -1, "A": -1} {
		if n, is := f.Len(name); n != max(0, want) || is != (want >= 0) {
			t.Errorf("%q: %d %v", name, n, is)
		}
	}
}

// P3.2: Names tells those that begin so, rising as bytes do.
func TestNamesTold(t *testing.T) {
	all := []string{"-", "--", ".", "/", "/a", "0", "9", "a", "a-", "a-b", "a.", "a.zip", "a/", "a/b", "a0", "aa", "ab", "b", "z"}
	f := New(1)
	for i := range all {
		f.Create(all[i*7%len(all)])
	}
	for _, head := range append(slices.Clone(all), "", "a.z", "a.zip.", "c", "A", "\xff", many("a", 100)) {
		var want []string
		for _, name := range all {
			if len(name) >= len(head) && name[:len(head)] == head {
				want = append(want, name)
			}
		}
		if got := f.Names(head); !slices.Equal(got, want) {
			t.Errorf("%q: %q, wanted %q", head, got, want)
		}
	}
}

// P3.2: Room is what files leave, by sectors; Waits is what isn't synced.
func TestRoomAndWaits(t *testing.T) {
	for n, takes := range map[int]int{0: 0, 1: 1, 63: 1, 64: 1, 65: 2, 127: 2, 128: 2, 129: 3, 640: 10} {
		f := New(10)
		f.Create("a")
		f.Write("a", 0, make([]byte, n))
		stands(t, f, 10-takes, takes)
		f.Sync("a")
		stands(t, f, 10-takes, 0)
	}
	f := with(10, "a", many("a", 300))
	f.Write("a", 63, []byte("x"))
	stands(t, f, 5, 1)
	f.Write("a", 63, []byte("xy"))
	stands(t, f, 5, 2)
	f.Write("a", 200, []byte("x"))
	stands(t, f, 5, 3)
	f.Write("a", 299, []byte("xy"))
	stands(t, f, 5, 4)
}
