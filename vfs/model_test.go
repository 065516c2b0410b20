package vfs

import (
	"fmt"
	"math/rand"
	"slices"
	"sort"
	"strings"
	"testing"

	"inquest/api"
)

// told is a store as the chapter tells it, byte by byte.
type told struct {
	sectors, stamp, fuse int
	down                 bool
	files                map[string]*toldFile
}

// toldFile has the bytes, those that last (as many, and zeros where nothing was synced), and the places of sectors that wait.
type toldFile struct {
	bytes, lasting []byte
	waits          map[int]bool
	stamp          int
}

// upTo is b, filled with zeros to n bytes, or cut to them.
func upTo(b []byte, n int) []byte {
	out := make([]byte, n)
	copy(out, b)
	return out
}

func (m *told) room() int {
	n := m.sectors
	for _, x := range m.files {
		n -= (len(x.bytes) + 63) / 64
	}
	return n
}

func (m *told) names() []string {
	l := []string{}
	for name := range m.files {
		l = append(l, name)
	}
	sort.Strings(l)
	return l
}

// may is what a call with those errors (in order; OK where one isn't) tells, and whether it is done.
func (m *told) may(l ...api.Errno) (api.Errno, bool) {
	if m.down {
		return api.ErrDown, false
	}
	for _, e := range l {
		if e != api.OK {
			return e, false
		}
	}
	if m.fuse == 0 {
		m.down = true
		return api.ErrDown, false
	}
	m.fuse--
	return api.OK, true
}

func (m *told) stampOf(x *toldFile) {
	m.stamp++
	x.stamp = m.stamp
}

// when is e, if that is so, else OK.
func when(so bool, e api.Errno) api.Errno {
	if so {
		return e
	}
	return api.OK
}

func toldRight(name string) bool {
	return len(name) > 0 && len(name) < 25 && strings.Trim(name, "abcdefghijklmnopqrstuvwxyz0123456789.-/") == ""
}

func (m *told) create(name string) api.Errno {
	e, is := m.may(when(!toldRight(name), api.ErrArg), when(m.files[name] != nil, api.ErrTwice))
	if is {
		m.files[name] = &toldFile{waits: map[int]bool{}}
		m.stampOf(m.files[name])
	}
	return e
}

func (m *told) write(name string, at int, b []byte) api.Errno {
	x := m.files[name]
	if x == nil {
		e, _ := m.may(api.ErrNone)
		return e
	}
	end := max(len(x.bytes), at+len(b))
	needs := (end+63)/64 - (len(x.bytes)+63)/64
	bad := []api.Errno{when(at < 0 || at > len(x.bytes), api.ErrArg), when(needs > m.room(), api.ErrFull)}
	if len(b) == 0 && bad[0] == api.OK && !m.down {
		return api.OK
	}
	e, is := m.may(bad...)
	if is {
		x.bytes = upTo(x.bytes, end)
		for i, c := range b {
			x.bytes[at+i] = c
			x.waits[(at+i)/64] = true
		}
		m.stampOf(x)
	}
	return e
}

func (m *told) cut(name string, n int) api.Errno {
	x := m.files[name]
	if x == nil {
		e, _ := m.may(api.ErrNone)
		return e
	}
	e, is := m.may(when(n < 0 || n > len(x.bytes), api.ErrArg))
	if is {
		x.bytes = x.bytes[:n]
		sectors := (n + 63) / 64
		x.lasting = upTo(x.lasting, min(len(x.lasting), 64*sectors))
		for place := range x.waits {
			if place >= sectors {
				delete(x.waits, place)
			}
		}
		if n%64 != 0 {
			x.waits[sectors-1] = true
		}
		m.stampOf(x)
	}
	return e
}

func (m *told) rename(from, to string) api.Errno {
	x := m.files[from]
	e, is := m.may(when(x == nil, api.ErrNone), when(!toldRight(to) || to == from, api.ErrArg))
	if is {
		m.files[to] = x
		delete(m.files, from)
		m.stampOf(x)
	}
	return e
}

func (m *told) remove(name string) api.Errno {
	e, is := m.may(when(m.files[name] == nil, api.ErrNone))
	if is {
		delete(m.files, name)
	}
	return e
}

func (m *told) sync(name string) api.Errno {
	x := m.files[name]
	e, is := m.may(when(x == nil, api.ErrNone))
	if is {
		x.lasting = upTo(x.bytes, (len(x.bytes)+63)/64*64)
		x.waits = map[int]bool{}
	}
	return e
}

func (m *told) crash(keep uint64) {
	i := 0
	for _, name := range m.names() {
		x := m.files[name]
		x.lasting = upTo(x.lasting, (len(x.bytes)+63)/64*64)
		now := upTo(x.bytes, len(x.lasting))
		for place := range len(now) / 64 {
			if x.waits[place] {
				if keep&(1<<(i%64)) != 0 {
					copy(x.lasting[64*place:64*place+64], now[64*place:])
				}
				i++
			}
		}
		x.bytes = upTo(x.lasting, len(x.bytes))
		x.lasting = upTo(x.bytes, len(x.lasting))
		x.waits = map[int]bool{}
	}
	m.fuse, m.down = -1, false
}

// picture is what the store of the same files should tell.
func (m *told) picture() []any {
	if m.down {
		return []any{true, 0, 0}
	}
	waits := 0
	var files []any
	for _, name := range m.names() {
		x := m.files[name]
		waits += len(x.waits)
		files = append(files, name, len(x.bytes), true, x.stamp, string(x.bytes))
	}
	return append([]any{false, m.room(), waits}, files...)
}

// both does one thing at the store and at what is told of it, and tells what it was, and the two answers.
func both(r *rand.Rand, f *FS, m *told) (string, api.Errno, api.Errno) {
	names := []string{"a", "a", "b", "b", "b/c", "-", "d.zip", "none", "B", ""}
	name, to := names[r.Intn(len(names))], names[r.Intn(len(names))]
	long, _ := f.Len(name)
	places := []int{0, long, long / 2, long - 1, long + 1, 1, 10, 63, 64, 65, 128, 130, -1, long / 64 * 64}
	at := places[r.Intn(len(places))]
	switch r.Intn(16) {
	case 0, 1:
		return "create " + name, f.Create(name), m.create(name)
	case 2, 3, 4, 5, 6:
		b := make([]byte, []int{0, 1, 2, 10, 54, 63, 64, 65, 100, 128, 200}[r.Intn(11)])
		r.Read(b)
		return fmt.Sprint("write ", name, at, len(b)), f.Write(name, at, b), m.write(name, at, b)
	case 7, 8, 9:
		return fmt.Sprint("cut ", name, at), f.Cut(name, at), m.cut(name, at)
	case 10:
		return fmt.Sprint("rename ", name, " ", to), f.Rename(name, to), m.rename(name, to)
	case 11:
		return "delete " + name, f.Delete(name), m.remove(name)
	case 12, 13:
		return "sync " + name, f.Sync(name), m.sync(name)
	case 14:
		n := r.Intn(12) - 2
		f.Fuse(n)
		m.fuse = max(-1, n)
		return fmt.Sprint("fuse ", n), api.OK, api.OK
	}
	keep := r.Uint64()
	f.Crash(keep)
	m.crash(keep)
	return fmt.Sprint("crash ", keep), api.OK, api.OK
}

// P3.1 and P3.2: many things done one behind the other, the same at the store and at what the chapter tells of it, with all answers held against each other.
func TestByModel(t *testing.T) {
	for seed := range int64(400) {
		r := rand.New(rand.NewSource(seed))
		sectors := 1 + r.Intn(12)
		f, m := New(sectors), &told{sectors: sectors, fuse: -1, files: map[string]*toldFile{}}
		var done []string
		for range 150 {
			what, got, want := both(r, f, m)
			done = append(done, what)
			if got != want || !slices.Equal(picture(f), m.picture()) {
				t.Fatalf("seed %d, %d sectors: %d, wanted %d; %v, wanted %v; behind %q", seed, sectors, got, want, picture(f), m.picture(), done)
			}
		}
	}
}

// P3.2: wherever a fuse ends a row of calls, and whatever a crash keeps, the store is what is told.
func TestFuseAndCrashByModel(t *testing.T) {
	row := []func(f *FS, m *told) (api.Errno, api.Errno){
		func(f *FS, m *told) (api.Errno, api.Errno) { return f.Create("log"), m.create("log") },
		func(f *FS, m *told) (api.Errno, api.Errno) {
			b := []byte(many("l", 150))
			return f.Write("log", 0, b), m.write("log", 0, b)
		},
		func(f *FS, m *told) (api.Errno, api.Errno) { return f.Sync("log"), m.sync("log") },
		func(f *FS, m *told) (api.Errno, api.Errno) {
			b := []byte("done")
			return f.Write("log", 150, b), m.write("log", 150, b)
		},
		func(f *FS, m *told) (api.Errno, api.Errno) { return f.Sync("log"), m.sync("log") },
		func(f *FS, m *told) (api.Errno, api.Errno) {
			b := []byte(many("n", 140))
			return f.Write("db", 60, b), m.write("db", 60, b)
		},
		func(f *FS, m *told) (api.Errno, api.Errno) { return f.Cut("log", 0), m.cut("log", 0) },
		func(f *FS, m *told) (api.Errno, api.Errno) { return f.Cut("db", 70), m.cut("db", 70) },
		func(f *FS, m *told) (api.Errno, api.Errno) { return f.Rename("db", "a"), m.rename("db", "a") },
		func(f *FS, m *told) (api.Errno, api.Errno) { return f.Delete("log"), m.remove("log") },
	}
	for fuse := range len(row) + 1 {
		for keep := range uint64(1 << 7) {
			f, m := with(9, "db", many("o", 130)), &told{sectors: 9, fuse: -1, files: map[string]*toldFile{}}
			m.create("db")
			m.write("db", 0, []byte(many("o", 130)))
			m.sync("db")
			f.Fuse(fuse)
			m.fuse = fuse
			for i, do := range row {
				got, want := do(f, m)
				if got != want || got != when(i >= fuse, api.ErrDown) {
					t.Errorf("fuse %d, call %d: %d, wanted %d", fuse, i, got, want)
				}
			}
			f.Crash(keep)
			m.crash(keep)
			if !slices.Equal(picture(f), m.picture()) {
				t.Errorf("fuse %d, keep %b: %v, wanted %v", fuse, keep, picture(f), m.picture())
			}
		}
	}
}
