package record

import (
	"strconv"
	"strings"
	"testing"

	"inquest/api"
)

// getters are the two calls, with what a raw head is for each.
var getters = []struct {
	what  string
	get   getter
	bytes func(raw) string
	long  int
	at    bool // At stands in it
}{
	{"local", GetLocal, raw.local, 30, false},
	{"central", GetCentral, raw.central, 46, true},
}

// some is a raw head of which no two numbers are alike.
func some() raw {
	return raw{version: 20, flags: 0x0102, method: 0x0304, dos: 0x05060708, crc: 0x090a0b0c, csize: 0x0d0e0f10, size: 0x11121314, made: 20, at: 0x15161718, name: "one.txt"}
}

// want is the head that r is.
func (r raw) want(at bool) api.Head {
	h := api.Head{Flags: int(r.flags), Method: int(r.method), Dos: int(r.dos), Crc: uint32(r.crc), Csize: int(r.csize), Size: int(r.size), Name: []byte(r.name)}
	if at {
		h.At = int(r.at)
	}
	return h
}

// P10.2: the head at at, wherever that is, and where it ends.
func TestGetAnywhere(t *testing.T) {
	for _, g := range getters {
		for _, name := range []string{"", "n", "one.txt", strings.Repeat("long", 16383)} {
			r := some()
			r.name = name
			b := g.bytes(r)
			for _, ahead := range []string{"", "P", "PK\x03\x04", "PK\x01\x02", b, strings.Repeat("x", 1000)} {
				for _, behind := range []string{"", "y", b} {
					want := r.want(g.at)
					if !g.at {
						want.At = len(ahead)
					}
					isGot(t, g.what, g.get, ahead+b+behind, len(ahead), want, len(ahead)+len(b))
				}
			}
		}
	}
}

// P10.2: any version, marks, disks and a comment may stand there; they change where the head ends, or nothing.
func TestGetWhatIsNothing(t *testing.T) {
	for i, change := range []func(r *raw){
		func(r *raw) { r.version = 0 },
		func(r *raw) { r.version = 45 },
		func(r *raw) { r.version = 0xffff },
		func(r *raw) { r.made = 0 },
		func(r *raw) { r.made = 45 },
		func(r *raw) { r.made = 0x031e },
		func(r *raw) { r.made = 0xffff },
		func(r *raw) { r.disk = 1 },
		func(r *raw) { r.disk = 0xffff },
		func(r *raw) { r.inner = 1 },
		func(r *raw) { r.inner = 0xffff },
		func(r *raw) { r.outer = 0x81a40000 },
		func(r *raw) { r.outer = 0xffffffff },
		func(r *raw) { r.comment = "c" },
		func(r *raw) { r.comment = "a comment" },
		func(r *raw) { r.comment = strings.Repeat("c", 65535) },
		func(r *raw) { r.comment, r.beside = "\x01", other(2, "z") },
		func(r *raw) {
			*r = raw{version: 7, made: 8, disk: 9, inner: 10, outer: 11, comment: "twelve", name: "13", beside: other(14, "15")}
		},
	} {
		for _, g := range getters {
			r := some()
			change(&r)
			b := g.bytes(r)
			isGot(t, g.what+" "+strconv.Itoa(i), g.get, b, 0, r.want(g.at), len(b))
			isGot(t, g.what+" "+strconv.Itoa(i)+" and more", g.get, b+"PK\x01\x02", 0, r.want(g.at), len(b))
		}
	}
}

// P10.2: each number is read at its greatest, and each is read as it stands, also where flags have Described.
func TestGetGreatest(t *testing.T) {
	for i, change := range []func(r *raw){
		func(r *raw) { r.flags = 0xffff },
		func(r *raw) { r.flags = 8 },
		func(r *raw) { r.method = 0xffff },
		func(r *raw) { r.dos = 0xffffffff },
		func(r *raw) { r.dos = 0 },
		func(r *raw) { r.crc = 0xffffffff },
		func(r *raw) { r.csize = 0xfffffffe },
		func(r *raw) { r.size = 0xfffffffe },
		func(r *raw) { r.at = 0xfffffffe },
		func(r *raw) { r.csize, r.size, r.at = 0xffff, 0xffff, 0xffff },
		func(r *raw) { r.csize, r.size, r.at = 0x7fffffff, 0x80000000, 0xfffffffe },
		func(r *raw) { r.csize, r.size, r.at, r.beside = 0xfffffffe, 0xfffffffe, 0xfffffffe, item1(1, 2, 3) },
	} {
		for _, g := range getters {
			r := some()
			change(&r)
			b := g.bytes(r)
			isGot(t, g.what+" "+strconv.Itoa(i), g.get, b, 0, r.want(g.at), len(b))
		}
	}
}

// P10.2, P10.3: of a local head At is at; of a central one it is what stands there, or in the item.
func TestAtOfHeads(t *testing.T) {
	for _, h := range []api.Head{heads[1].h, heads[3].h} {
		local, _ := Local(h)
		central, _ := Central(h)
		b := string(central) + string(local) + string(central) + string(local)
		at := 0
		for range 2 {
			isGot(t, "central", GetCentral, b, at, h, at+len(central))
			at += len(central)
			want := h
			want.At = at
			isGot(t, "local", GetLocal, b, at, want, at+len(local))
			at += len(local)
		}
	}
}

// P10.2: ErrArg, if at is below 0; ErrEnd, if there aren't four bytes; both whatever b has.
func TestGetAtNoPlace(t *testing.T) {
	for _, g := range getters {
		for _, b := range []string{"", "P", "PK", "PK\x03", "PK\x01", "xxx", g.bytes(some()), g.bytes(some()) + g.bytes(some())} {
			for _, at := range append([]int{len(b) - 3, len(b) - 2, len(b) - 1, len(b), len(b) + 1, len(b) + 4}, extremes...) {
				switch {
				case at < 0:
					isWrong(t, g.what, g.get, b, at, api.ErrArg)
				case at > len(b)-4:
					isWrong(t, g.what, g.get, b, at, api.ErrEnd)
				}
			}
		}
	}
}

// P10.2: ErrForm, if the four bytes aren't right: any other one in each place, and the marks of others, however much is missing behind them.
func TestGetWrongMarks(t *testing.T) {
	marks := []string{"PK\x03\x04", "PK\x01\x02", "PK\x05\x06", "PK\x06\x06", "PK\x06\x07", "PK\x07\x08", "\x04\x03KP", "\x02\x01KP", "KP\x04\x03", "\x00\x00\x00\x00"}
	for _, g := range getters {
		b := g.bytes(some())
		for _, m := range marks {
			if m == b[:4] {
				continue
			}
			isWrong(t, g.what, g.get, m, 0, api.ErrForm)
			isWrong(t, g.what, g.get, with(b, 0, m), 0, api.ErrForm)
			isWrong(t, g.what, g.get, b+m, len(b), api.ErrForm)
		}
		for place := range 4 {
			for x := range 256 {
				if w := with(b, place, string([]byte{byte(x)})); w != b {
					isWrong(t, g.what, g.get, w, 0, api.ErrForm)
					isWrong(t, g.what, g.get, w[:4], 0, api.ErrForm)
				}
			}
		}
		for at := 1; at <= len(b)-4; at++ {
			isWrong(t, g.what, g.get, b, at, api.ErrForm)
		}
	}
}

// P10.2: a head that is cut short at each place is told by ErrEnd, also where what is beside isn't right.
func TestGetCutShort(t *testing.T) {
	full := some()
	full.comment, full.beside = "comment", other(7, "seven")+item1(1, 2, 3)
	wide := some()
	wide.csize, wide.size, wide.at, wide.beside = ones4, ones4, ones4, item1(1, 2, 3)
	wrong := some()
	wrong.csize, wrong.beside, wrong.comment = ones4, "no", "comment"
	for _, g := range getters {
		for i, r := range []raw{{}, some(), full, wide, wrong} {
			b := g.bytes(r)
			for n := range len(b) {
				isWrong(t, g.what+" "+strconv.Itoa(i), g.get, b[:n], 0, api.ErrEnd)
				isWrong(t, g.what+" "+strconv.Itoa(i), g.get, "ahead"+b[:n], 5, api.ErrEnd)
			}
		}
	}
}

// P10.2: lengths that go beyond the end, by one and by as many as can stand there.
func TestGetLengthsBeyond(t *testing.T) {
	for i, change := range []func(r *raw){
		func(r *raw) { r.moreName = 1 },
		func(r *raw) { r.moreName = 65535 - len(r.name) },
		func(r *raw) { r.moreBeside = 1 },
		func(r *raw) { r.moreBeside = 65535 },
		func(r *raw) { r.moreBeside, r.beside = 1, "no" },
		func(r *raw) { r.moreName, r.moreBeside = 65535-len(r.name), 65535 },
	} {
		for _, g := range getters {
			r := some()
			change(&r)
			isWrong(t, g.what+" "+strconv.Itoa(i), g.get, g.bytes(r), 0, api.ErrEnd)
			r.comment = "c"
			if g.at {
				r.moreComment = 65534
				isWrong(t, g.what+" with a comment "+strconv.Itoa(i), g.get, g.bytes(r), 0, api.ErrEnd)
			}
		}
	}
	for _, more := range []int{1, 2, 65530} {
		r := some()
		r.comment, r.moreComment = "c", more
		isWrong(t, "comment", GetCentral, r.central(), 0, api.ErrEnd)
		isWrong(t, "comment", GetCentral, r.central()+strings.Repeat("c", more-1), 0, api.ErrEnd)
	}
}
