package pager

import (
	"bytes"
	"math/rand"
	"slices"
	"testing"

	"inquest/api"
	"inquest/vfs"
)

// summed is the sum of these as chapter 2 tells it, bit by bit.
func summed(b []byte) int {
	n := uint32(0xffffffff)
	for _, x := range b {
		n ^= uint32(x)
		for range 8 {
			goes := n & 1
			n >>= 1
			if goes == 1 {
				n ^= 0xedb88320
			}
		}
	}
	return int(n ^ 0xffffffff)
}

// fours are the numbers, each in four bytes, the lowest first.
func fours(numbers ...int) []byte {
	var b []byte
	for _, n := range numbers {
		b = append(b, byte(n), byte(n>>8), byte(n>>16), byte(n>>24))
	}
	return b
}

// full is b, filled with zeros to 508 bytes.
func full(b []byte) []byte {
	out := make([]byte, 508)
	copy(out, b)
	return out
}

// stands is how a page stands in the file, by the words of chapter 15.
func stands(no int, b []byte) []byte {
	return append(full(b), fours(summed(append(fours(no), full(b)...)))...)
}

// batchOf is a batch, by the words of chapter 16.
func batchOf(l ...api.Write) []byte {
	b := append([]byte{0x69, 0x71, 0x6a, 0x31}, fours(len(l))...)
	for _, w := range l {
		b = append(b, fours(w.No)...)
		b = append(b, w.B...)
	}
	return append(b, fours(summed(b))...)
}

// headed is what page 0 has.
func headed(many, first int, roots [8]int) []byte {
	return full(append([]byte{0x69, 0x71, 0x64, 0x62}, append(fours(many, first), fours(roots[:]...)...)...))
}

// state is all that a pager is to have: its pages but page 0, the free ones, the first one first, and its roots.
type state struct {
	pages [][]byte
	free  []int
	roots [8]int
}

func (s state) copied() state {
	return state{slices.Clone(s.pages), slices.Clone(s.free), s.roots}
}

// first is the first free page, 0 if there is none.
func (s state) first() int { return append(slices.Clone(s.free), 0)[0] }

// page is what a page has, page 0 too.
func (s state) page(no int) []byte {
	if no == 0 {
		return headed(len(s.pages)+1, s.first(), s.roots)
	}
	return s.pages[no-1]
}

// file is what stands in name.db.
func (s state) file() []byte {
	var b []byte
	for no := range len(s.pages) + 1 {
		b = append(b, stands(no, s.page(no))...)
	}
	return b
}

// told is a pager as the chapter tells it: what it has, and had when it was committed last.
type told struct {
	now, last state
	changed   map[int]bool
}

func newTold() *told { return &told{changed: map[int]bool{}} }

func (m *told) is(no int) bool { return no >= 0 && no <= len(m.now.pages) }

func (m *told) change(l ...int) {
	for _, no := range l {
		m.changed[no] = true
	}
}

func (m *told) set(no int, b []byte) {
	m.now.pages[no-1] = full(b)
	m.change(no)
}

func (m *told) alloc() int {
	no := m.now.first()
	if no == 0 {
		m.now.pages = append(m.now.pages, nil)
		no = len(m.now.pages)
	} else {
		m.now.free = m.now.free[1:]
	}
	m.set(no, nil)
	m.change(0)
	return no
}

func (m *told) freed(no int) api.Errno {
	if no == 0 || !m.is(no) {
		return api.ErrArg
	}
	m.set(no, fours(m.now.first()))
	m.now.free = append([]int{no}, m.now.free...)
	m.change(0)
	return api.OK
}

func (m *told) write(no int, b []byte) api.Errno {
	if no == 0 || !m.is(no) {
		return api.ErrArg
	}
	if len(b) > 508 {
		return api.ErrLong
	}
	m.set(no, b)
	return api.OK
}

func (m *told) setRoot(k, no int) api.Errno {
	if k < 0 || k > 7 || !m.is(no) {
		return api.ErrArg
	}
	m.now.roots[k] = no
	m.change(0)
	return api.OK
}

func (m *told) commit() {
	m.last = m.now.copied()
	m.changed = map[int]bool{}
}

func (m *told) abort() {
	m.now = m.last.copied()
	m.changed = map[int]bool{}
}

// batch is what is written together at a commit.
func (m *told) batch() []api.Write {
	var l []api.Write
	for no := range len(m.now.pages) + 1 {
		if no == 0 || m.changed[no] {
			l = append(l, api.Write{No: no, B: stands(no, m.now.page(no))})
		}
	}
	return l
}

// opened is the pager of that name.
func opened(t *testing.T, f *vfs.FS, name string) *Pager {
	t.Helper()
	p, e := Open(f, name)
	if e != api.OK || p == nil {
		t.Fatalf("Open(%q): %v", name, e)
	}
	return p
}

// has tells where the pager hasn't all that the state tells.
func has(t *testing.T, p *Pager, s state) {
	t.Helper()
	if p.Many() != len(s.pages)+1 {
		t.Errorf("%d pages, wanted %d", p.Many(), len(s.pages)+1)
	}
	for no := range len(s.pages) + 1 {
		if b, e := p.Read(no); e != api.OK || !bytes.Equal(b, s.page(no)) {
			t.Errorf("page %d: %x, %v, wanted %x", no, b, e, s.page(no))
		}
	}
	lists(t, p, s)
}

// lists tells where the pager hasn't the free pages and roots that the state tells.
func lists(t *testing.T, p *Pager, s state) {
	t.Helper()
	if l, e := p.Frees(); e != api.OK || !slices.Equal(l, s.free) {
		t.Errorf("free: %v, %v, wanted %v", l, e, s.free)
	}
	for k := range 8 {
		if no := p.Root(k); no != s.roots[k] {
			t.Errorf("root %d: %d, wanted %d", k, no, s.roots[k])
		}
	}
}

// whole are all bytes of a file.
func whole(f *vfs.FS, name string) []byte {
	n, _ := f.Len(name)
	b, _ := f.Read(name, 0, n)
	return b
}

// committed tells where the files aren't as they should be behind a commit.
func committed(t *testing.T, f *vfs.FS, name string, s state) {
	t.Helper()
	if b := whole(f, name+".db"); !bytes.Equal(b, s.file()) {
		t.Errorf("name.db has %d bytes, %x, wanted %x", len(b), b, s.file())
	}
	if n, is := f.Len(name + ".log"); n != 0 || !is || f.Waits() != 0 {
		t.Errorf("name.log has %d bytes, %v; %d sectors wait", n, is, f.Waits())
	}
}

// drawn are n bytes.
func drawn(x *rand.Rand, n int) []byte {
	b := make([]byte, n)
	x.Read(b)
	return b
}

// one does one call, that is drawn, at the pager and at the model, and tells where they answer differently.
func one(t *testing.T, x *rand.Rand, p *Pager, m *told) {
	t.Helper()
	no := x.Intn(len(m.now.pages)+4) - 1
	switch x.Intn(9) {
	case 0, 1:
		if got, e := p.Alloc(); got != m.alloc() || e != api.OK {
			t.Errorf("Alloc: %d, %v", got, e)
		}
	case 2:
		if slices.Contains(m.now.free, no) {
			return
		}
		if got, want := p.Free(no), m.freed(no); got != want {
			t.Errorf("Free(%d): %v, wanted %v", no, got, want)
		}
	case 3, 4, 5:
		b := drawn(x, []int{0, 1, 4, 507, 508, 509, x.Intn(508)}[x.Intn(7)])
		if slices.Contains(m.now.free, no) {
			return
		}
		if got, want := p.Write(no, b), m.write(no, b); got != want {
			t.Errorf("Write(%d, %d bytes): %v, wanted %v", no, len(b), got, want)
		}
	case 6:
		k := x.Intn(10) - 1
		if got, want := p.SetRoot(k, no), m.setRoot(k, no); got != want {
			t.Errorf("SetRoot(%d, %d): %v, wanted %v", k, no, got, want)
		}
	default:
		b, e := p.Read(no)
		switch {
		case !m.is(no):
			if e != api.ErrArg || len(b) != 0 {
				t.Errorf("Read(%d): %x, %v", no, b, e)
			}
		case e != api.OK || !bytes.Equal(b, m.now.page(no)):
			t.Errorf("Read(%d): %x, %v, wanted %x", no, b, e, m.now.page(no))
		}
	}
	if p.Changed() != (len(m.changed) > 0) || p.Many() != len(m.now.pages)+1 {
		t.Errorf("changed %v, %d pages; wanted %v, %d", p.Changed(), p.Many(), len(m.changed) > 0, len(m.now.pages)+1)
	}
}

// P17.1, P17.2: whatever calls come, a pager has what the chapter tells, till it is committed, given up, or opened anew.
func TestModel(t *testing.T) {
	x := rand.New(rand.NewSource(17))
	for range 60 {
		f := vfs.New(20000)
		p, m := opened(t, f, "a"), newTold()
		for range 60 {
			for range x.Intn(12) {
				one(t, x, p, m)
			}
			lists(t, p, m.now)
			switch x.Intn(6) {
			case 0, 1:
				if e := p.Commit(); e != api.OK {
					t.Errorf("Commit: %v", e)
				}
				m.commit()
				committed(t, f, "a", m.last)
			case 2:
				if e := p.Abort(); e != api.OK {
					t.Errorf("Abort: %v", e)
				}
				m.abort()
			case 3:
				// Whatever wasn't committed is lost with the pager.
				p = opened(t, f, "a")
				m.abort()
			case 4:
				f.Crash(x.Uint64())
			case 5:
				has(t, p, m.now)
			}
			if t.Failed() {
				t.FailNow()
			}
		}
		has(t, opened(t, f, "a"), m.last)
		committed(t, f, "a", m.last)
	}
}
