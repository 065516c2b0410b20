package zip

import (
	"bytes"
	"fmt"
	"hash/crc32"
	"math/rand"
	"strings"
	"testing"

	"inquest/api"
	"inquest/unzip"
)

// P12.1, P12.2: names of 1 byte and of 40 may be, in each writing; those of 41 may not.
func TestLongNames(t *testing.T) {
	for _, c := range []struct {
		name string
		may  bool
	}{
		{"a", true}, {" ", true}, {"~", true}, {"/", true}, {"\"", true},
		{strings.Repeat("n", 39), true}, {strings.Repeat("n", 40), true}, {strings.Repeat("n", 41), false},
		{"é", true}, {strings.Repeat("é", 20), true}, {strings.Repeat("é", 20) + "a", false}, {"a" + strings.Repeat("é", 20), false}, {strings.Repeat("é", 21), false},
		{"ж", true}, {strings.Repeat("ж", 20), true}, {strings.Repeat("ж", 19) + "ab", true}, {strings.Repeat("ж", 20) + "a", false}, {strings.Repeat("ж", 21), false},
		{strings.Repeat("█", 13) + "n", true}, {strings.Repeat("█", 13) + "nn", false}, {strings.Repeat("\U0001f600", 10), true}, {strings.Repeat("\U0001f600", 10) + "n", false},
		{"\x1f", false}, {"\x20", true}, {"\x7e", true}, {"\x7f", false}, {"\u0080", true}, {"\ufffd", true}, {"\U0010ffff", true}, {"", false},
	} {
		for k := range 4 {
			i := api.Item{Name: c.name, Dos: dawn, Data: []byte("data"), Wide: k&1 != 0, Described: k&2 != 0}
			if b := asModel(t, c.name, i); May(i) != c.may || (len(b) > 0) != c.may {
				t.Errorf("%q: %v, %d bytes", c.name, May(i), len(b))
			}
		}
	}
}

// P12.1, P12.2: all bytes of the code page stand in names as they are, but for those that may not be.
func TestNamesByThePage(t *testing.T) {
	for k, r := range pageRunes() {
		b := makes(t, string(r), api.Item{Name: "a" + string(r), Dos: dawn})
		if len(b) < 32 || b[31] != byte(128+k) || b[7] != 0 {
			t.Errorf("%q: %q", r, b)
		}
	}
	for r := range rune(128) {
		i := api.Item{Name: string(r), Dos: dawn}
		if b := asModel(t, string(r), i); len(b) > 0 != (r >= 32 && r != 127) || len(b) > 0 && rune(b[30]) != r {
			t.Errorf("%q: %q", r, b)
		}
	}
}

// P12.1, P12.2: the least moment and the greatest one may be, and nothing beyond them.
func TestMoments(t *testing.T) {
	const least, most = 1<<21 | 1<<16, 127<<25 | 12<<21 | 31<<16 | 23<<11 | 59<<5 | 29
	for _, c := range []struct {
		dos int
		may bool
	}{
		{least, true}, {least - 1, false}, {least + 1, true}, {most, true}, {most + 1, false}, {most + 2, false}, {most - 1, true},
		{0x585d0201, true}, {0x585dffff, false}, {0x58000000, false}, {20<<25 | 2<<21 | 29<<16, true}, {120<<25 | 2<<21 | 29<<16, false}, {0, false}, {-1, false}, {1<<32 - 1, false}, {1<<32 | least, false},
	} {
		for k := range 4 {
			i := api.Item{Name: "n", Dos: c.dos, Data: []byte("data"), Wide: k&1 != 0, Described: k&2 != 0}
			if b := asModel(t, fmt.Sprint(c.dos), i); May(i) != c.may || (len(b) > 0) != c.may {
				t.Errorf("%d: %v, %d bytes", c.dos, May(i), len(b))
			}
		}
	}
	x := rand.New(rand.NewSource(3))
	for range 20000 {
		i := api.Item{Name: "n", Dos: int(x.Uint32()) &^ (x.Intn(2) * 0xffff)}
		if May(i) != isMoment(i.Dos) {
			t.Errorf("%d: %v", i.Dos, May(i))
		}
	}
}

// P12.1: the ways to pack are those from 0 to 3.
func TestHow(t *testing.T) {
	for how := -300; how < 300; how++ {
		i := api.Item{Name: "n", Dos: dawn, Data: []byte(strings.Repeat("data", 5)), How: how}
		b := asModel(t, fmt.Sprint("way ", how), i)
		if may := how >= 0 && how <= 3; May(i) != may || (len(b) > 0) != may {
			t.Errorf("way %d: %v, %d bytes", how, May(i), len(b))
		}
	}
}

// P12.1, P12.2: data of none, in each way: by the codes they are some bytes.
func TestNoData(t *testing.T) {
	for _, data := range [][]byte{nil, {}, make([]byte, 0, 9)} {
		for k := range 16 {
			i := api.Item{Name: "n", Dos: dawn, Data: data, How: k % 4, Wide: k&4 != 0, Described: k&8 != 0}
			b := makes(t, fmt.Sprint("no data ", k), i)
			l, _ := unzip.Open(b)
			if len(l) != 1 || l[0].Size != 0 || l[0].Crc != 0 || (l[0].Csize > 0) != (i.How == 1 || i.How == 2) || l[0].Method != 8*min(1, l[0].Csize) {
				t.Errorf("way %d: %v", i.How, l)
			}
		}
	}
}

// most are just as many data as may be: all alike, and by chance.
func most() [][]byte {
	b := make([]byte, 1<<24)
	rand.New(rand.NewSource(4)).Read(b)
	return [][]byte{make([]byte, 1<<24), b}
}

// P12.1, P12.2: data of 2^24 bytes may be, in each way; of one byte more they may not.
func TestMostData(t *testing.T) {
	for kind, data := range most() {
		for how := range 4 {
			t.Run(fmt.Sprintf("%d, way %d", kind, how), func(t *testing.T) {
				t.Parallel()
				i := api.Item{Name: "n", Dos: dawn, Data: data, How: how, Wide: how == 1, Described: how == 2}
				b, e := Make(api.Item{Name: "ahead", Dos: dawn}, i)
				if e != api.OK || !May(i) {
					t.Fatal(e, May(i))
				}
				l, e := unzip.Open(b)
				if e != api.OK || len(l) != 2 || l[1].Size != 1<<24 || l[1].Crc != crc32.ChecksumIEEE(data) {
					t.Fatal(l, e)
				}
				content, e := unzip.Content(b, l[1])
				if !bytes.Equal(content, data) || e != api.OK {
					t.Errorf("%d bytes, %v", len(content), e)
				}
				if plain := how == 0 || how == 3 && kind == 1; (l[1].Method == 0) != plain {
					t.Errorf("method %d", l[1].Method)
				}
			})
		}
	}
	for how := range 4 {
		i := api.Item{Name: "n", Dos: dawn, Data: tooMany, How: how}
		if May(i) {
			t.Errorf("way %d: too many data may be", how)
		}
		refuses(t, "too many data", api.ErrArg, i)
		refuses(t, "too many data, behind another one", api.ErrArg, right(1)[0], i)
	}
}
