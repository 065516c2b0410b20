package zip

import (
	"bytes"
	"compress/flate"
	"fmt"
	"hash/crc32"
	"io"
	"strings"
	"testing"
	"time"
	"unicode/utf8"

	"inquest/api"
	"inquest/deflate"
	"inquest/unzip"
)

// The model tells the chapters anew: which items may be, and of those which may, the archive, part by part.

// dawn is the least moment's number, and the one that most items here have.
const dawn = 2162688

// pageRows are the code page's runes from 128 on, but for the last one, as chapter 9 has them.
const pageRows = "ÇüéâäàåçêëèïîìÄÅ ÉæÆôöòûùÿÖÜ¢£¥₧ƒ áíóúñÑªº¿⌐¬½¼¡«» ░▒▓│┤╡╢╖╕╣║╗╝╜╛┐ └┴┬├─┼╞╟╚╔╩╦╠═╬╧ ╨╤╥╙╘╒╓╫╪┘┌█▄▌▐▀ αßΓπΣσµτΦΘΩδ∞φε∩ ≡±≥≤⌠⌡÷≈°∙·√ⁿ²■"

// pageRunes are the runes of the bytes from 128 on.
func pageRunes() []rune {
	return append([]rune(strings.ReplaceAll(pageRows, " ", "")), 0xa0)
}

// rawName is the name as a head has it, and the flags that go with it.
func rawName(name string) (string, int) {
	page := pageRunes()
	var raw []byte
	for _, r := range name {
		b := -1
		if r < 128 {
			b = int(r)
		}
		for i, x := range page {
			if x == r {
				b = 128 + i
			}
		}
		if b < 0 {
			return name, 2048
		}
		raw = append(raw, byte(b))
	}
	return string(raw), 0
}

// put are the numbers, each in w bytes.
func put(w int, numbers ...int) string {
	var b []byte
	for _, n := range numbers {
		for i := range w {
			b = append(b, byte(uint64(n)>>(8*i)))
		}
	}
	return string(b)
}

// part is an item as it stands in an archive.
type part struct {
	wide               bool
	raw, data          string
	flags, method, dos int
	crc, csize, size   int
	// at is where its local head begins.
	at int
}

// partOf is the item, whose local head begins at at.
func partOf(i api.Item, at int) part {
	raw, flags := rawName(i.Name)
	data, method := packedBy(i)
	if i.Described {
		flags += 8
	}
	return part{i.Wide, raw, data, flags, method, i.Dos, int(crc32.ChecksumIEEE(i.Data)), len(data), len(i.Data), at}
}

// packedBy are the item's data as How tells, and by which method.
func packedBy(i api.Item) (string, int) {
	ways := []string{string(i.Data)}
	for _, how := range []int{deflate.Fixed, deflate.Dynamic} {
		p := ""
		if i.How == how || i.How == 3 {
			b, _ := deflate.Pack(i.Data, how)
			p = string(b)
		}
		ways = append(ways, p)
	}
	how := i.How
	if how == 3 {
		how = 0
		for k, p := range ways {
			if len(p) < len(ways[how]) {
				how = k
			}
		}
	}
	return ways[how], 8 * min(how, 1)
}

func (p part) version() int {
	if p.wide {
		return 45
	}
	return 20
}

// item is what is beside a head, if it is wide.
func (p part) item(numbers ...int) string {
	if !p.wide {
		return ""
	}
	return put(2, 1, 8*len(numbers)) + put(8, numbers...)
}

// narrow are the numbers as they stand in a head itself.
func (p part) narrow(numbers ...int) string {
	if p.wide {
		return strings.Repeat("\xff\xff\xff\xff", len(numbers))
	}
	return put(4, numbers...)
}

func (p part) local() string {
	crc, csize, size := p.crc, p.csize, p.size
	if p.flags&8 != 0 {
		crc, csize, size = 0, 0, 0
	}
	beside := p.item(size, csize)
	return "PK\x03\x04" + put(2, p.version(), p.flags, p.method) + put(4, p.dos, crc) + p.narrow(csize, size) + put(2, len(p.raw), len(beside)) + p.raw + beside
}

func (p part) central() string {
	beside := p.item(p.size, p.csize, p.at)
	return "PK\x01\x02" + put(2, p.version(), p.version(), p.flags, p.method) + put(4, p.dos, p.crc) + p.narrow(p.csize, p.size) +
		put(2, len(p.raw), len(beside), 0, 0, 0) + put(4, 0) + p.narrow(p.at) + p.raw + beside
}

func (p part) behind() string {
	switch {
	case p.flags&8 == 0:
		return ""
	case p.wide:
		return "PK\x07\x08" + put(4, p.crc) + put(8, p.csize, p.size)
	}
	return "PK\x07\x08" + put(4, p.crc, p.csize, p.size)
}

// tailOf is the tail of so many heads.
func tailOf(wide bool, many, long, at int) string {
	last := func(numbers, many string) string {
		return "PK\x05\x06" + put(2, 0, 0) + many + many + numbers + put(2, 0)
	}
	if !wide {
		return last(put(4, long, at), put(2, many))
	}
	return "PK\x06\x06" + put(8, 44) + put(2, 45, 45) + put(4, 0, 0) + put(8, many, many, long, at) +
		"PK\x06\x07" + put(4, 0) + put(8, at+long) + put(4, 1) + last("\xff\xff\xff\xff\xff\xff\xff\xff", "\xff\xff")
}

// modelled is an archive of items that may be.
func modelled(items []api.Item) string {
	var all, heads strings.Builder
	wide := false
	for _, i := range items {
		p := partOf(i, all.Len())
		all.WriteString(p.local() + p.data + p.behind())
		heads.WriteString(p.central())
		wide = wide || i.Wide
	}
	return all.String() + heads.String() + tailOf(wide, len(items), heads.Len(), all.Len())
}

// mayBe is what May is to answer.
func mayBe(i api.Item) bool {
	for _, r := range i.Name {
		if r < 32 || r == 127 {
			return false
		}
	}
	named := utf8.ValidString(i.Name) && len(i.Name) >= 1 && len(i.Name) <= 40
	return named && isMoment(i.Dos) && i.How >= 0 && i.How <= 3 && len(i.Data) <= 16777216
}

// isMoment tells whether n is a moment's number: one that the library's calendar leaves as it is.
func isMoment(n int) bool {
	if n < 0 || n > 0xffffffff {
		return false
	}
	day, clock := n/65536, n%65536
	d := time.Date(1980+day/512, time.Month(day/32%16), day%32, clock/2048, clock/32%64, clock%32*2, 0, time.UTC)
	return (d.Year()-1980)*512+int(d.Month())*32+d.Day() == day && d.Hour()*2048+d.Minute()*32+d.Second()/2 == clock
}

// answer is what Make is to answer.
func answer(items []api.Item) (string, api.Errno) {
	if len(items) > 1000 {
		return "", api.ErrMany
	}
	for _, i := range items {
		if !mayBe(i) {
			return "", api.ErrArg
		}
	}
	for k, i := range items {
		for _, j := range items[:k] {
			if i.Name == j.Name {
				return "", api.ErrTwice
			}
		}
	}
	return modelled(items), api.OK
}

// short is the beginning of what may be long.
func short(s string) string { return fmt.Sprintf("%d bytes %.60q", len(s), s) }

// makes is asModel of items that may be.
func makes(t *testing.T, what string, items ...api.Item) []byte {
	t.Helper()
	b := asModel(t, what, items...)
	if b == nil {
		t.Errorf("%s: no archive", what)
	}
	return b
}

// asModel holds Make and May against the model, and what is made against layer 11; it hands out the archive.
func asModel(t *testing.T, what string, items ...api.Item) []byte {
	t.Helper()
	want, wanted := answer(items)
	b, e := Make(items...)
	if string(b) != want || e != wanted {
		t.Errorf("%s: %s, %v, wanted %s, %v", what, short(string(b)), e, short(want), wanted)
		return b
	}
	for k, i := range items {
		if may := May(i); may != mayBe(i) {
			t.Errorf("%s: May of %d: %v", what, k, may)
		}
	}
	if e == api.OK {
		reads(t, what, b, items)
	}
	return b
}

// reads holds what layer 11 reads of b against the items: just their names, moments and data, in order.
func reads(t *testing.T, what string, b []byte, items []api.Item) {
	t.Helper()
	l, e := unzip.Open(b)
	if e != api.OK || len(l) != len(items) {
		t.Errorf("%s: %d entries of %d, %v", what, len(l), len(items), e)
		return
	}
	for k, i := range items {
		f := l[k]
		if f.Name != i.Name || f.Dos != i.Dos || f.Size != len(i.Data) {
			t.Errorf("%s: entry %d is %q of %d, %d bytes", what, k, f.Name, f.Dos, f.Size)
		}
		content, e := unzip.Content(b, f)
		if !bytes.Equal(content, i.Data) || e != api.OK {
			t.Errorf("%s: entry %d: %s, %v, wanted %s", what, k, short(string(content)), e, short(string(i.Data)))
		}
		inWay(t, what, i, f, b[f.At:f.At+f.Csize])
	}
}

// inWay tells whether the entry's data are packed in the way that the item tells: as they are, or in one block of the kind of that number, by what the library reads of it.
func inWay(t *testing.T, what string, i api.Item, f api.File, data []byte) {
	t.Helper()
	if f.Method == 0 {
		if i.How != 0 && i.How != 3 || !bytes.Equal(data, i.Data) {
			t.Errorf("%s: %q by way %d is plain: %s", what, i.Name, i.How, short(string(data)))
		}
		return
	}
	kind := int(data[0]) >> 1 & 3
	if f.Method != 8 || i.How == 0 || data[0]&1 == 0 || i.How != 3 && kind != i.How {
		t.Errorf("%s: %q by way %d has the method %d, and a block of kind %d: %s", what, i.Name, i.How, f.Method, kind, short(string(data)))
	}
	if i.How == 3 && len(data) >= len(i.Data) {
		t.Errorf("%s: %q, %d bytes, became %d", what, i.Name, len(i.Data), len(data))
	}
	content, err := io.ReadAll(flate.NewReader(bytes.NewReader(data)))
	if !bytes.Equal(content, i.Data) || err != nil {
		t.Errorf("%s: %q: the library unpacks %s, %v", what, i.Name, short(string(content)), err)
	}
}
