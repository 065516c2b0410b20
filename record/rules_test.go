package record

import (
	"bytes"
	"math/rand"
	"slices"
	"strings"
	"sync"
	"testing"

	"inquest/api"
)

// roomy is the text's bytes, with room behind them that is filled, so that a write into it is seen.
func roomy(text string, fill byte) []byte {
	whole := append([]byte(text), bytes.Repeat([]byte{fill}, 64)...)
	return whole[:len(text)]
}

// fill writes over all of b, spare room included.
func fill(b []byte, x byte) {
	b = b[:cap(b)]
	for i := range b {
		b[i] = x
	}
}

// R1, R2: none panics, at any numbers, and beside an error there is nothing.
func TestAnyNumbers(t *testing.T) {
	for _, n := range extremes {
		for _, m := range extremes {
			for _, wide := range []bool{false, true} {
				for _, h := range []api.Head{
					{Flags: n, Method: m, Wide: wide}, {Dos: n, At: m, Wide: wide}, {Csize: n, Size: m, Wide: wide},
					{Flags: api.Described, Csize: n, Size: m, At: n, Wide: wide}, {Flags: n, Csize: m, Size: m, At: n, Wide: wide},
				} {
					b, e := Local(h)
					c, f := Central(h)
					if e != f || e != api.OK && len(b)+len(c) != 0 || e == api.OK && (string(b) != localOf(h) || string(c) != centralOf(h)) {
						t.Errorf("%v: %x, %v, %x, %v", h, b, e, c, f)
					}
					if is := h.Flags&8 != 0; is != (len(Behind(h)) > 0) {
						t.Errorf("%v: %x", h, Behind(h))
					}
				}
				for _, x := range []api.Tail{{Many: n, Long: m, Wide: wide}, {Long: n, At: m, Wide: wide}} {
					if b, e := End(x, 3); e != api.OK && len(b) != 0 || e == api.OK && string(b) != endOf(x, 3) {
						t.Errorf("%v: %x, %v", x, b, e)
					}
				}
			}
		}
	}
}

// pieces are what archives have, as it should be, and not quite.
func pieces() []string {
	var all []string
	for _, c := range heads {
		all = append(all, c.local, c.central, c.behind)
	}
	wide := some()
	wide.csize, wide.size, wide.at, wide.beside, wide.comment = ones4, ones4, ones4, other(2, "two")+item1(1, 2, 3), "comment"
	all = append(all, wide.local(), wide.central())
	for _, x := range []api.Tail{{}, {Many: 3, Long: 4, At: 5}, {Many: 1 << 40, Long: 1 << 41, At: 1 << 42, Wide: true}} {
		all = append(all, endOf(x, 0), endOf(x, 7))
	}
	return append(all, "", "PK", strings.Repeat("\xff", 30), strings.Repeat("\x00", 30))
}

// R1, R2, W5: any bytes are read to a head, or a tail, or to an error, beside which there is nothing; and what was read may be put again, and tells the same then.
func TestAnyBytes(t *testing.T) {
	x := rand.New(rand.NewSource(10))
	all := pieces()
	for range 60000 {
		b := []byte(all[x.Intn(len(all))] + all[x.Intn(len(all))] + all[x.Intn(len(all))])
		for range x.Intn(4) {
			if len(b) > 0 {
				b[x.Intn(len(b))] = []byte{0, 1, 8, 255, 'P', 'K', byte(x.Intn(256))}[x.Intn(7)]
			}
		}
		b = b[:len(b)-x.Intn(min(len(b), 5)+1)]
		for at := -1; at <= len(b)+1; at++ {
			asRead(t, b, at, GetLocal, Local)
			asRead(t, b, at, GetCentral, Central)
		}
		tail, e := Find(b)
		if e != api.OK && (e != api.ErrForm || tail != api.Tail{}) {
			t.Fatalf("Find(%x): %v, %v", b, tail, e)
		}
		if e == api.OK {
			again, e := End(tail, 0)
			if same, f := Find(again); e != api.OK || f != api.OK || same != tail {
				t.Fatalf("%v: %x, %v, %v, %v", tail, again, e, same, f)
			}
		}
	}
}

// asRead holds what is read at at against what the rules allow.
func asRead(t *testing.T, b []byte, at int, get getter, put func(api.Head) ([]byte, api.Errno)) {
	t.Helper()
	h, end, e := get(b, at)
	switch e {
	case api.ErrArg, api.ErrEnd, api.ErrForm:
		if !sameHead(h, api.Head{}) || end != 0 || (e == api.ErrArg) != (at < 0) {
			t.Fatalf("%x at %d: %v, %d, %v", b, at, h, end, e)
		}
	case api.OK:
		again, e := put(h)
		same, _, f := get(again, 0)
		if h.Flags&api.Described == 0 && e == api.OK && f == api.OK {
			same.At = h.At
			if !Same(same, h) {
				t.Fatalf("%x at %d: %v, put and got %v", b, at, h, same)
			}
		}
		if end <= at || end > len(b) || e != api.OK || f != api.OK {
			t.Fatalf("%x at %d: %v, %d; put %v, got %v", b, at, h, end, e, f)
		}
	default:
		t.Fatalf("%x at %d: %v", b, at, e)
	}
}

// R3: nil and empty are one, handed in and answered.
func TestNilIsEmpty(t *testing.T) {
	for _, wide := range []bool{false, true} {
		one, e := Local(api.Head{Wide: wide})
		other, f := Local(api.Head{Name: []byte{}, Wide: wide})
		if !bytes.Equal(one, other) || e != f {
			t.Errorf("%x, %x", one, other)
		}
		one, e = Central(api.Head{Wide: wide})
		other, f = Central(api.Head{Name: make([]byte, 0, 7), Wide: wide})
		if !bytes.Equal(one, other) || e != f {
			t.Errorf("%x, %x", one, other)
		}
	}
	for _, b := range [][]byte{nil, {}} {
		for _, g := range getters {
			isWrong(t, g.what, g.get, string(b), 0, api.ErrEnd)
			if _, _, e := g.get(b, -1); e != api.ErrArg {
				t.Error(g.what, e)
			}
		}
		if x, e := Find(b); x != (api.Tail{}) || e != api.ErrForm {
			t.Error(x, e)
		}
	}
}

// R4: what is handed in isn't changed, spare room included, whatever is answered.
func TestArgumentsStay(t *testing.T) {
	for _, s := range append(pieces(), "PK\x03\x04", heads[3].local+heads[3].central+endOf(api.Tail{Wide: true}, 0)) {
		b := roomy(s, 0xaa)
		before := slices.Clone(b[:cap(b)])
		for at := -1; at <= len(b)+1; at++ {
			GetLocal(b, at)
			GetCentral(b, at)
		}
		Find(b)
		h := api.Head{Flags: api.Described, Size: 7, Name: b}
		for range 2 {
			Local(h)
			Central(h)
			Behind(h)
			Same(h, h)
			h.Wide = true
		}
		Local(api.Head{Flags: -1, Name: b})
		Central(api.Head{Flags: -1, Name: b})
		if !bytes.Equal(b[:cap(b)], before) {
			t.Errorf("%x became %x", before, b[:cap(b)])
		}
	}
}

// R4: an answer shares nothing with an argument, nor with an earlier answer, spare room included: each may be written over, and the others stay.
func TestAnswersAreNew(t *testing.T) {
	for i, c := range heads {
		h := named(c.h, string(c.h.Name))
		for what, call := range map[string]func() ([]byte, string){
			"Local":   func() ([]byte, string) { b, _ := Local(h); return b, c.local },
			"Central": func() ([]byte, string) { b, _ := Central(h); return b, c.central },
			"Behind":  func() ([]byte, string) { return Behind(h), c.behind },
			"End":     func() ([]byte, string) { b, _ := End(api.Tail{Many: i}, 0); return b, endOf(api.Tail{Many: i}, 0) },
			"a wide End": func() ([]byte, string) {
				b, _ := End(api.Tail{Wide: true}, i)
				return b, endOf(api.Tail{Wide: true}, i)
			},
		} {
			first, want := call()
			second, _ := call()
			fill(first, 0x55)
			if string(second) != want || string(h.Name) != string(c.h.Name) {
				t.Errorf("%d, %s: %x, wanted %x; name %q", i, what, second, want, h.Name)
			}
			if third, _ := call(); string(third) != want {
				t.Errorf("%d, %s: asked again %x, wanted %x", i, what, third, want)
			}
		}
	}
}

// R4: a name that is read is its own, and isn't changed with the bytes that it was read from, nor with another's.
func TestNamesAreNew(t *testing.T) {
	for _, g := range getters {
		for _, name := range []string{"", "n", "one.txt"} {
			r := some()
			r.name, r.beside, r.comment = name, other(7, "seven"), "comment"
			b := roomy(g.bytes(r), 0xaa)
			before := slices.Clone(b[:cap(b)])
			one, _, _ := g.get(b, 0)
			two, _, _ := g.get(b, 0)
			fill(one.Name, '!')
			one.Name = append(one.Name, "12345678"...)
			if string(two.Name) != name || !bytes.Equal(b[:cap(b)], before) {
				t.Errorf("%s: %q, %x", g.what, two.Name, b[:cap(b)])
			}
			fill(b, '?')
			if string(two.Name) != name {
				t.Errorf("%s: %q", g.what, two.Name)
			}
		}
	}
}

// R4: what is handed in isn't kept: bytes that were put don't change with the name.
func TestNamesAreNotKept(t *testing.T) {
	for i, c := range heads {
		h := named(c.h, string(c.h.Name))
		local, _ := Local(h)
		central, _ := Central(h)
		fill(h.Name, '?')
		if string(local) != c.local || string(central) != c.central {
			t.Errorf("%d: %x, %x", i, local, central)
		}
	}
}

// R5: what is answered hangs on the arguments alone: the same again, whatever was asked in between, by several at once, and whatever room there is behind.
func TestSameAgain(t *testing.T) {
	wide := api.Tail{Many: 1 << 40, Long: 1 << 41, At: 1 << 42, Wide: true}
	var all sync.WaitGroup
	for k := range 8 {
		all.Add(1)
		go func() {
			defer all.Done()
			for i := range 1000 {
				c := heads[(i+k)%len(heads)]
				local, _ := Local(c.h)
				central, _ := Central(c.h)
				h, end, e := GetCentral(roomy(c.central, byte(k)), 0)
				tight, _, f := GetCentral(slices.Clip([]byte(c.central)), 0)
				if string(local) != c.local || string(central) != c.central || string(Behind(c.h)) != c.behind || e != api.OK || f != api.OK || end != len(c.central) || !Same(h, c.h) || !Same(tight, h) {
					t.Errorf("%v: %x, %x, %v, %d, %v", c.h, local, central, h, end, e)
				}
				b, _ := End(wide, 0)
				if x, e := Find(roomy(string(b), 'P')); x != wide || e != api.OK {
					t.Errorf("%v, %v", x, e)
				}
				Find([]byte(c.local))
				GetLocal([]byte(c.central), 0)
				Central(api.Head{Flags: -1})
			}
		}()
	}
	all.Wait()
}
