package vfs

import (
	"bytes"
	"math"
	"slices"
	"testing"

	"inquest/api"
)

// R1 and P3.2: of a nil FS every call tells ErrNil, or nothing; it is down, and stays so.
func TestNilFS(t *testing.T) {
	var f *FS
	tellsNothing(t, f, api.ErrNil)
	for _, n := range extremes {
		f.Fuse(n)
		f.Crash(uint64(n))
	}
	tellsNothing(t, f, api.ErrNil)
}

// oddNames are names that there are, or might be, and those that may not be.
var oddNames = []string{"", "a", "b", "c", "A", "a\x00", "\xff\xfe", "none", many("a", 24), many("a", 25), many("z", 1<<17), "é", "a b"}

// R1: no call panics, whatever it is given. R2: a call that tells an error has changed nothing.
func TestAllArguments(t *testing.T) {
	f := with(5, "a", many("a", 130), "b", "")
	f.Write("a", 128, []byte("w"))
	refused := 0
	tell := func(what string, call func() api.Errno) {
		before := picture(f)
		e := call()
		if e < api.OK || e > api.ErrLine {
			t.Errorf("%s: %d", what, e)
		}
		if e != api.OK {
			refused++
			if after := picture(f); !slices.Equal(after, before) {
				t.Errorf("%s, %d: %v, it was %v", what, e, after, before)
			}
		}
	}
	for _, name := range oddNames {
		tell("Create", func() api.Errno { return f.Create(name) })
		tell("Sync", func() api.Errno { return f.Sync(name) })
		for _, n := range extremes {
			for _, b := range [][]byte{nil, {}, []byte("x"), make([]byte, 64), make([]byte, 1000)} {
				tell("Write", func() api.Errno { return f.Write(name, n, b) })
			}
			tell("Cut", func() api.Errno { return f.Cut(name, n) })
			for _, at := range extremes {
				tell("Read", func() api.Errno { _, e := f.Read(name, at, n); return e })
			}
		}
		for _, to := range oddNames {
			tell("Rename", func() api.Errno { return f.Rename(name, to) })
			tell("Rename back", func() api.Errno { return f.Rename(to, name) })
		}
		f.Len(name)
		f.Stamp(name)
		f.Names(name)
	}
	for _, name := range oddNames {
		tell("Delete", func() api.Errno { return f.Delete(name) })
	}
	if refused < 1000 || len(f.Names("")) != 0 || f.Room() != 5 || f.Waits() != 0 {
		t.Error(refused, f.Names(""), f.Room(), f.Waits())
	}
}

// R2: a call that tells an error has changed nothing that a crash tells, either: what waits, waits still, and what lasts is the same.
func TestErrorsChangeNothingThatLasts(t *testing.T) {
	for keep := range uint64(4) {
		f, g := with(3, "a", many("a", 130)), with(3, "a", many("a", 130))
		for _, s := range []*FS{f, g} {
			s.Write("a", 0, []byte(many("b", 100)))
		}
		for _, n := range []int{-1, 131, math.MaxInt} {
			g.Cut("a", n)
			g.Write("a", n, []byte("x"))
		}
		g.Write("a", 130, make([]byte, 63))
		g.Rename("a", "A")
		g.Rename("a", "a")
		g.Create("a")
		g.Delete("none")
		g.Sync("none")
		f.Crash(keep)
		g.Crash(keep)
		if !slices.Equal(picture(f), picture(g)) {
			t.Errorf("keep %d: %v, wanted %v", keep, picture(g), picture(f))
		}
	}
}

// R2: beside an error every other result is its zero value.
func TestNothingBesideErrors(t *testing.T) {
	f := with(5, "a", many("a", 130))
	for _, c := range []struct {
		name  string
		at, n int
		e     api.Errno
	}{{"none", 0, 0, api.ErrNone}, {"a", -1, 1, api.ErrArg}, {"a", 0, -1, api.ErrArg}, {"a", 100, 31, api.ErrEnd}, {"a", 131, 1, api.ErrEnd}} {
		if b, e := f.Read(c.name, c.at, c.n); len(b) != 0 || e != c.e {
			t.Errorf("%s %d %d: %x %d", c.name, c.at, c.n, b, e)
		}
	}
	if n, is := f.Len("none"); n != 0 || is {
		t.Error(n, is)
	}
}

// R3: nil and empty lists are one, handed in.
func TestNilIsEmpty(t *testing.T) {
	f, g := with(5, "a", "abc"), with(5, "a", "abc")
	for at := -1; at < 6; at++ {
		if e, d := f.Write("a", at, nil), g.Write("a", at, []byte{}); e != d {
			t.Errorf("at %d: %d, %d", at, e, d)
		}
	}
	if e, d := f.Write("none", 0, nil), g.Write("none", 0, []byte{}); e != d {
		t.Error(e, d)
	}
	if !slices.Equal(picture(f), picture(g)) {
		t.Error(picture(f), picture(g))
	}
}

// spare is b with room behind it, filled with x, so that a write into it is seen.
func spare(b []byte, room int, x byte) []byte {
	all := append(slices.Clone(b), bytes.Repeat([]byte{x}, room)...)
	return all[:len(b)]
}

// R4: what is handed in isn't changed, spare room included, and isn't kept: when it changes later, the file doesn't.
func TestArgumentsStay(t *testing.T) {
	for _, n := range []int{1, 63, 64, 65, 128, 200} {
		f := New(9)
		f.Create("a")
		b := spare([]byte(many("b", n)), 100, 0xaa)
		before := slices.Clone(b[:cap(b)])
		f.Write("a", 0, b)
		f.Sync("a")
		f.Write("a", 0, []byte(many("c", n)))
		f.Cut("a", n-1)
		f.Crash(0)
		if !bytes.Equal(b[:cap(b)], before) {
			t.Errorf("%d: %q", n, b[:cap(b)])
		}
		f.Write("a", 0, b)
		for i := range b[:cap(b)] {
			b[:cap(b)][i] = 'x'
		}
		has(t, f, "a", many("b", n))
	}
}

// R4: what is answered is new memory: to change it, its spare room included, changes neither the store nor an earlier answer.
func TestAnswersAreNew(t *testing.T) {
	f := with(9, "a", many("a", 200), "b", "")
	f.Write("a", 64, []byte("w"))
	before := picture(f)
	for _, c := range [][2]int{{0, 200}, {0, 64}, {64, 64}, {10, 20}, {0, 0}, {200, 0}, {190, 10}} {
		first, _ := f.Read("a", c[0], c[1])
		second, _ := f.Read("a", c[0], c[1])
		kept := slices.Clone(second)
		for i := range first[:cap(first)] {
			first[:cap(first)][i] = 'x'
		}
		if !bytes.Equal(second, kept) || !slices.Equal(picture(f), before) {
			t.Errorf("%d from %d on are shared", c[1], c[0])
		}
	}
	first, second := f.Names(""), f.Names("")
	for i := range first[:cap(first)] {
		first[:cap(first)][i] = "x"
	}
	if !slices.Equal(second, []string{"a", "b"}) || !slices.Equal(picture(f), before) {
		t.Error(second)
	}
}

// R4: an answer stays what it was, whatever the store goes through.
func TestAnswersStay(t *testing.T) {
	f := with(9, "a", many("a", 100), "b", "b")
	b, _ := f.Read("a", 0, 100)
	l := f.Names("")
	f.Write("a", 0, []byte(many("x", 150)))
	f.Cut("a", 10)
	f.Delete("b")
	f.Create("aa")
	f.Crash(5)
	f.Delete("a")
	if string(b) != many("a", 100) || !slices.Equal(l, []string{"a", "b"}) {
		t.Errorf("%q %q", b, l)
	}
}

// R5: stores side by side have nothing to do with one another, and what went through the same answers the same, asked again, too.
func TestStoresStandAlone(t *testing.T) {
	f, g := New(20), New(20)
	names := []string{"q", "d", "z", "a", "m", "-", "t"}
	for i, name := range names {
		other := New(3)
		for _, s := range []*FS{f, g} {
			s.Create(name)
			s.Write(name, 0, []byte(many(name, 70+i)))
			s.Rename(name, name+"x")
			other.Create(name)
			other.Fuse(0)
			other.Sync(name)
		}
	}
	for keep := range uint64(50) {
		for _, s := range []*FS{f, g} {
			for _, name := range names {
				s.Write(name+"x", 0, []byte(many("k", 66)))
			}
		}
		for range 3 {
			if !slices.Equal(picture(f), picture(g)) {
				t.Fatal(picture(f), picture(g))
			}
		}
		f.Crash(keep * 12345)
		g.Crash(keep * 12345)
		if !slices.Equal(picture(f), picture(g)) {
			t.Fatal("keep", keep, picture(f), picture(g))
		}
	}
}
