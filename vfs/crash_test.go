package vfs

import (
	"slices"
	"testing"

	"inquest/api"
)

// P3.2: the example of the chapter: a crash that keeps nothing leaves the length, and zeros.
func TestCrashKeepsLength(t *testing.T) {
	for _, n := range []int{0, 1, 63, 64, 65, 200} {
		f := New(9)
		f.Create("a")
		f.Write("a", 0, []byte(many("a", n)))
		f.Crash(0)
		has(t, f, "a", zeros(n))
		stands(t, f, 9-(n+63)/64, 0)
		if n > 0 && f.Stamp("a") != 2 {
			t.Error("stamp", f.Stamp("a"))
		}
	}
}

// P3.2: the i-th sector that waits lasts just if the bit i is 1: by files' names, then by places.
func TestCrashKeepsByBits(t *testing.T) {
	for keep := range uint64(1 << 6) {
		f := with(20, "a", many("a", 192), "b", many("b", 192), "c", many("c", 192))
		// Written in another order than they are told in: the waiting ones are a1, a2, b0, b2, c0, c1.
		f.Write("c", 64, []byte("X"))
		f.Write("b", 128, []byte("X"))
		f.Write("a", 128, []byte("X"))
		f.Write("c", 0, []byte("X"))
		f.Write("a", 64, []byte("X"))
		f.Write("b", 0, []byte("X"))
		stands(t, f, 11, 6)
		f.Crash(keep)
		for i, w := range []struct {
			name  string
			place int
		}{{"a", 1}, {"a", 2}, {"b", 0}, {"b", 2}, {"c", 0}, {"c", 1}} {
			want := w.name
			if keep>>i&1 == 1 {
				want = "X"
			}
			if b, _ := f.Read(w.name, 64*w.place, 2); string(b) != want+w.name {
				t.Errorf("keep %b: %s %d: %q", keep, w.name, w.place, b)
			}
		}
		stands(t, f, 11, 0)
	}
}

// P3.2: behind 64 sectors the bits begin again.
func TestCrashBitsGoRound(t *testing.T) {
	for _, keep := range []uint64{0, 1, 2, 1 << 63, 0xaaaaaaaaaaaaaaaa, 0x0123456789abcdef, 1<<64 - 1} {
		f := New(300)
		f.Create("a")
		f.Write("a", 0, []byte(many("a", 64*50)))
		f.Create("b")
		f.Write("b", 0, []byte(many("b", 64*150)))
		f.Crash(keep)
		for i := range 200 {
			name, place := "a", i
			if i >= 50 {
				name, place = "b", i-50
			}
			want := zeros(64)
			if keep>>(i%64)&1 == 1 {
				want = many(name, 64)
			}
			if b, _ := f.Read(name, 64*place, 64); string(b) != want {
				t.Errorf("keep %x, sector %d: %q", keep, i, b)
			}
		}
	}
}

// P3.2: files' order in a crash is that of their names then, not of when they were made, nor of their names ahead of a Rename.
func TestCrashOrderIsByNamesThen(t *testing.T) {
	f := New(9)
	for _, name := range []string{"b", "a", "c"} {
		f.Create(name)
		f.Write(name, 0, []byte(name))
	}
	f.Rename("a", "x")
	// b, c, x
	f.Crash(1 << 2)
	has(t, f, "b", "\x00")
	has(t, f, "c", "\x00")
	has(t, f, "x", "a")
}

// P3.2: a sector that doesn't last is what it was when it was last synced, whatever was written since.
func TestCrashGoesBackToSync(t *testing.T) {
	f := with(9, "a", "first")
	f.Write("a", 0, []byte("other"))
	f.Sync("a")
	f.Write("a", 0, []byte("third"))
	f.Write("a", 2, []byte("XXXXXX"))
	f.Crash(0)
	// Three bytes more than at the sync: zeros then.
	has(t, f, "a", "other"+zeros(3))
}

// P3.2: what a crash left is what lasts: a later crash goes back to it.
func TestCrashBehindCrash(t *testing.T) {
	f := with(9, "a", many("a", 128))
	f.Write("a", 0, []byte(many("b", 128)))
	f.Crash(1)
	has(t, f, "a", many("b", 64)+many("a", 64))
	f.Write("a", 0, []byte(many("c", 128)))
	f.Crash(0)
	has(t, f, "a", many("b", 64)+many("a", 64))
	f.Crash(1<<64 - 1)
	has(t, f, "a", many("b", 64)+many("a", 64))
}

// P3.2: behind the file's end a crash leaves zeros, also where what was synced went on.
func TestCrashBehindTheEnd(t *testing.T) {
	f := with(9, "a", many("a", 64))
	f.Cut("a", 10)
	f.Crash(0)
	has(t, f, "a", many("a", 10))
	f.Write("a", 10, []byte("b"))
	f.Crash(0)
	has(t, f, "a", many("a", 10)+"\x00")
	f.Write("a", 11, []byte(many("c", 53)))
	f.Crash(0)
	has(t, f, "a", many("a", 10)+zeros(54))
}

// P3.2: of a Cut within a sector the zeros wait: ahead of the file's end what was synced comes back.
func TestCrashTakesZerosBack(t *testing.T) {
	f := with(9, "a", many("a", 64))
	f.Cut("a", 10)
	f.Write("a", 10, []byte(many("b", 20)))
	f.Crash(0)
	has(t, f, "a", many("a", 30))
	// And no more of it than up to that end.
	f.Write("a", 30, []byte("c"))
	f.Write("a", 31, []byte(many("c", 33)))
	f.Crash(0)
	has(t, f, "a", many("a", 30)+zeros(34))

	f = with(9, "a", many("a", 64))
	f.Cut("a", 10)
	f.Write("a", 10, []byte(many("b", 20)))
	f.Crash(1)
	has(t, f, "a", many("a", 10)+many("b", 20))
}

// P3.2: a sector that a Cut took away, and that came again, is as one that wasn't synced; that one and those behind it alone.
func TestCrashOfSectorThatCameAgain(t *testing.T) {
	for _, c := range []struct {
		cut  int
		want string
	}{
		{0, zeros(192)},
		{1, many("a", 64) + zeros(128)},
		{64, many("a", 64) + zeros(128)},
		{65, many("a", 128) + zeros(64)},
		{128, many("a", 128) + zeros(64)},
		{129, many("a", 192)},
		{192, many("a", 192)},
	} {
		f := with(9, "a", many("a", 192))
		f.Cut("a", c.cut)
		f.Write("a", c.cut, []byte(many("b", 192-c.cut)))
		f.Crash(0)
		has(t, f, "a", c.want)
	}
	// The same where the sector waited when it was taken away.
	f := with(9, "a", many("a", 128))
	f.Write("a", 64, []byte("x"))
	f.Cut("a", 64)
	stands(t, f, 8, 0)
	f.Write("a", 64, []byte("yz"))
	stands(t, f, 7, 1)
	f.Crash(0)
	has(t, f, "a", many("a", 64)+zeros(2))
	// And where it was synced since.
	f.Write("a", 64, []byte("yz"))
	f.Sync("a")
	f.Write("a", 64, []byte("!!"))
	f.Crash(0)
	has(t, f, "a", many("a", 64)+"yz")
}

// P3.2: that there are files, their names, lengths and stamps last at once.
func TestCrashLeavesFiles(t *testing.T) {
	f := with(20, "a", many("a", 100), "b", "b", "c", many("c", 10), "d", "d")
	f.Rename("a", "x")
	f.Rename("b", "c")
	f.Delete("d")
	f.Create("e")
	f.Write("x", 100, []byte(many("y", 100)))
	f.Write("e", 0, []byte("e"))
	f.Cut("e", 0)
	stamps := map[string]int{}
	for _, name := range f.Names("") {
		stamps[name] = f.Stamp(name)
	}
	room := f.Room()
	f.Crash(0)
	if l := f.Names(""); !slices.Equal(l, []string{"c", "e", "x"}) {
		t.Error(l)
	}
	for name, stamp := range stamps {
		if f.Stamp(name) != stamp {
			t.Errorf("%s: stamp %d, wanted %d", name, f.Stamp(name), stamp)
		}
	}
	has(t, f, "c", "b")
	has(t, f, "e", "")
	has(t, f, "x", many("a", 100)+zeros(100))
	stands(t, f, room, 0)
}

// P3.2: a crash of a store that is up, and without anything that waits, changes nothing but the fuse.
func TestCrashOfNothing(t *testing.T) {
	f := with(9, "a", many("a", 100))
	f.Fuse(0)
	f.Crash(0)
	has(t, f, "a", many("a", 100))
	check(t, step{f.Write("a", 0, []byte("b")), api.OK}, step{f.Sync("a"), api.OK})
	New(1).Crash(1)
}

// changers are all calls that change something, and Sync: each one can be done at a store of changeable.
var changers = []func(f *FS) api.Errno{
	func(f *FS) api.Errno { return f.Create("new") },
	func(f *FS) api.Errno { return f.Write("a", 0, []byte("x")) },
	func(f *FS) api.Errno { return f.Write("a", 0, []byte("a")) },
	func(f *FS) api.Errno { return f.Cut("a", 1) },
	func(f *FS) api.Errno { return f.Cut("b", 64) },
	func(f *FS) api.Errno { return f.Rename("a", "z") },
	func(f *FS) api.Errno { return f.Rename("a", "b") },
	func(f *FS) api.Errno { return f.Delete("a") },
	func(f *FS) api.Errno { return f.Sync("a") },
	func(f *FS) api.Errno { return f.Sync("b") },
}

func changeable() *FS {
	f := with(4, "a", many("a", 100), "b", many("b", 64))
	f.Write("a", 64, []byte("w"))
	return f
}

// picture is all that can be told of a store.
func picture(f *FS) []any {
	p := []any{f.Down(), f.Room(), f.Waits()}
	for _, name := range f.Names("") {
		n, is := f.Len(name)
		p = append(p, name, n, is, f.Stamp(name), whole(f, name))
	}
	return p
}

// P3.2: with a fuse of n just n calls that change something, or sync, are done; the next one isn't, and the store is down.
func TestFuse(t *testing.T) {
	for i, last := range changers {
		for n := range 4 {
			f := changeable()
			f.Fuse(n)
			for k := range n {
				check(t, step{f.Write("b", k, []byte("k")), api.OK})
			}
			if f.Down() {
				t.Errorf("%d: down behind %d calls", i, n)
			}
			before := picture(f)
			if e := last(f); e != api.ErrDown || !f.Down() {
				t.Errorf("%d, fuse %d: %d, down %v", i, n, e, f.Down())
			}
			// It wasn't done: but for what waited, and lasts now, nothing is another.
			f.Crash(1<<64 - 1)
			before[2] = 0
			if after := picture(f); !slices.Equal(after, before) {
				t.Errorf("%d, fuse %d: %v, it was %v", i, n, after, before)
			}
		}
	}
}

// P3.2: each of these calls takes one of the fuse.
func TestFuseIsTaken(t *testing.T) {
	for i, first := range changers {
		f := changeable()
		f.Fuse(1)
		check(t, step{first(f), api.OK}, step{f.Create("next"), api.ErrDown})
		if !f.Down() {
			t.Error(i)
		}
		f = changeable()
		f.Fuse(2)
		check(t, step{first(f), api.OK}, step{f.Create("next"), api.OK}, step{f.Create("more"), api.ErrDown})
	}
}

// P3.2: calls that tell an error, or change nothing, take nothing of the fuse, and don't let the store go down.
func TestFuseStays(t *testing.T) {
	for n := range 2 {
		f := changeable()
		f.Fuse(n)
		before := picture(f)
		check(t,
			step{f.Create("A"), api.ErrArg},
			step{f.Create("a"), api.ErrTwice},
			step{f.Write("none", 0, []byte("x")), api.ErrNone},
			step{f.Write("a", 101, []byte("x")), api.ErrArg},
			step{f.Write("a", 0, make([]byte, 1000)), api.ErrFull},
			step{f.Write("a", 0, nil), api.OK},
			step{f.Write("a", 100, []byte{}), api.OK},
			step{f.Cut("none", 0), api.ErrNone},
			step{f.Cut("a", 101), api.ErrArg},
			step{f.Rename("none", "x"), api.ErrNone},
			step{f.Rename("a", "a"), api.ErrArg},
			step{f.Rename("a", "A"), api.ErrArg},
			step{f.Delete("none"), api.ErrNone},
			step{f.Sync("none"), api.ErrNone},
		)
		f.Read("a", 0, 100)
		if after := picture(f); !slices.Equal(after, before) {
			t.Errorf("%v, it was %v", after, before)
		}
		if n == 1 {
			check(t, step{f.Create("one"), api.OK})
		}
		check(t, step{f.Create("next"), api.ErrDown})
	}
}

// P3.2: the fuse that was set last counts; below 0 there is none.
func TestFuseIsSetAnew(t *testing.T) {
	for _, n := range []int{-1, -2, -1 << 63} {
		f := changeable()
		f.Fuse(0)
		f.Fuse(n)
		for range 100 {
			check(t, step{f.Write("a", 0, []byte("x")), api.OK}, step{f.Sync("a"), api.OK})
		}
	}
	f := changeable()
	f.Fuse(1<<63 - 1)
	check(t, step{f.Sync("a"), api.OK}, step{f.Sync("a"), api.OK})
	f.Fuse(0)
	f.Fuse(2)
	check(t, step{f.Sync("a"), api.OK}, step{f.Sync("a"), api.OK}, step{f.Sync("a"), api.ErrDown})
}

// P3.2: of a store that is down every call but Down, Crash and Fuse tells ErrDown, or nothing.
func TestDown(t *testing.T) {
	f := changeable()
	f.Fuse(0)
	f.Sync("a")
	for _, n := range []int{-1, 0, 5} {
		// A fuse doesn't bring it up.
		f.Fuse(n)
		if !f.Down() {
			t.Error("up")
		}
		tellsNothing(t, f, api.ErrDown)
	}
	f.Crash(1)
	if f.Down() {
		t.Error("down")
	}
	has(t, f, "a", many("a", 64)+"w"+many("a", 35))
	// It is without a fuse.
	for range 20 {
		check(t, step{f.Sync("a"), api.OK})
	}
}

// tellsNothing tells where a call tells something else than that error, or nothing.
func tellsNothing(t *testing.T, f *FS, e api.Errno) {
	t.Helper()
	for _, name := range []string{"a", "none", "A", "", "b"} {
		check(t, step{f.Create(name), e}, step{f.Write(name, 0, []byte("x")), e}, step{f.Write(name, 0, nil), e}, step{f.Write(name, -1, nil), e}, step{f.Cut(name, 0), e}, step{f.Cut(name, -1), e},
			step{f.Rename(name, "q"), e}, step{f.Rename(name, name), e}, step{f.Delete(name), e}, step{f.Sync(name), e})
		for _, at := range []int{-1, 0, 1000} {
			if b, got := f.Read(name, at, 1); len(b) != 0 || got != e {
				t.Errorf("Read: %q %d", b, got)
			}
		}
		if n, is := f.Len(name); n != 0 || is {
			t.Error("Len:", n, is)
		}
		if f.Stamp(name) != 0 || len(f.Names(name)) != 0 {
			t.Error("Stamp:", f.Stamp(name), "Names:", f.Names(name))
		}
	}
	if f.Room() != 0 || f.Waits() != 0 || !f.Down() {
		t.Error("Room:", f.Room(), "Waits:", f.Waits(), "Down:", f.Down())
	}
}

// P3.2: a store that went down has kept what was done, waiting or not, till a crash decides.
func TestCrashBehindFuse(t *testing.T) {
	for keep, want := range map[uint64]string{0: "old", 1: "new"} {
		f := with(9, "a", "old")
		f.Fuse(1)
		check(t, step{f.Write("a", 0, []byte("new")), api.OK}, step{f.Sync("a"), api.ErrDown})
		f.Crash(keep)
		has(t, f, "a", want)
	}
}
