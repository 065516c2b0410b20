package unzip

import (
	"fmt"
	"math"
	"math/rand"
	"strings"
	"testing"

	"inquest/api"
	"inquest/deflate"
)

// someMosts are lengths of pieces.
var someMosts = []int{1, 2, 3, 7, 100, 4096, 32767, 32768, 32769, 65535, 65536, 65537, 0, -1, math.MaxInt, math.MinInt}

// mostsFor are those of them by which so many bytes come in no great time.
func mostsFor(long int) []int {
	if long < 1000 {
		return append([]int{long - 1, long, long + 1}, someMosts...)
	}
	return append([]int{long - 1, long, long + 1}, someMosts[4:12]...)
}

// P11.1, P11.2, P11.3: contents of many lengths, plain and packed in each way, are told at once, and in pieces.
func TestContents(t *testing.T) {
	for i, content := range contents() {
		for how := range 5 {
			p := plainPart("n", content)
			if how > 0 {
				p = packedPart("n", content)
			}
			if how > 1 {
				packed, e := deflate.Pack([]byte(content), how-2)
				if e != api.OK {
					t.Fatal(e)
				}
				p = partOf("n", content, string(packed), 8)
			}
			b, f := p.alone()
			brings(t, fmt.Sprintf("content %d, packed by %d", i, how), b, f, content, api.OK, mostsFor(len(content))...)
		}
	}
}

// P11.1: the name and the moment are nothing to the content.
func TestWhatIsNothingToContent(t *testing.T) {
	for _, p := range []part{plainPart("n", "content"), packedPart("n", "content")} {
		b, f := p.alone()
		for _, n := range extremes {
			f.Dos, f.Name = n, ""
			brings(t, "dos", b, f, "content", api.OK, 1, 100)
		}
		f.Name = "\xff\x00" + strings.Repeat("long", 100)
		brings(t, "name", b, f, "content", api.OK, 1, 100)
	}
}

// P11.1: ErrArg is told of data that aren't within the archive, of a method that there isn't, and of a size that may not be, whatever else is wrong.
func TestWrongFiles(t *testing.T) {
	for _, p := range []part{plainPart("n", "content"), packedPart("n", "content"), plainPart("n", ""), packedPart("n", "")} {
		b, f := p.alone()
		long := len(b)
		for _, c := range []struct {
			what   string
			change func(f *api.File)
		}{
			{"At is -1", func(f *api.File) { f.At = -1 }},
			{"one byte beyond", func(f *api.File) { f.At = long - f.Csize + 1 }},
			{"one byte more", func(f *api.File) { f.Csize = long - f.At + 1 }},
			{"nothing beyond", func(f *api.File) { f.At, f.Csize = long+1, 0 }},
			{"from the end on", func(f *api.File) { f.At, f.Csize = long, 1 }},
			{"all, and one more", func(f *api.File) { f.At, f.Csize = 0, long+1 }},
			{"Csize is -1", func(f *api.File) { f.Csize = -1 }},
			{"Csize is below 0, back to the beginning", func(f *api.File) { f.Csize = -f.At }},
			{"Csize below 0 from beyond", func(f *api.File) { f.At, f.Csize = long+5, -5 }},
			{"At below 0, up to within", func(f *api.File) { f.At, f.Csize = -5, 10 }},
			{"the greatest", func(f *api.File) { f.At, f.Csize = math.MaxInt, math.MaxInt }},
			{"their sum is 0", func(f *api.File) { f.At, f.Csize = math.MinInt, math.MinInt }},
			{"the greatest At", func(f *api.File) { f.At = math.MaxInt }},
			{"the greatest Csize", func(f *api.File) { f.Csize = math.MaxInt }},
			{"the least At", func(f *api.File) { f.At = math.MinInt }},
			{"the least Csize", func(f *api.File) { f.Csize = math.MinInt }},
			{"method -1", func(f *api.File) { f.Method = -1 }},
			{"method 1", func(f *api.File) { f.Method = 1 }},
			{"method 7", func(f *api.File) { f.Method = 7 }},
			{"method 9", func(f *api.File) { f.Method = 9 }},
			{"method 256", func(f *api.File) { f.Method = 256 }},
			{"method 264", func(f *api.File) { f.Method = 264 }},
			{"the least method", func(f *api.File) { f.Method = math.MinInt }},
			{"the greatest method", func(f *api.File) { f.Method = math.MaxInt }},
			{"Size is -1", func(f *api.File) { f.Size = -1 }},
			{"Size is -2^32", func(f *api.File) { f.Size = -1 << 32 }},
			{"the least Size", func(f *api.File) { f.Size = math.MinInt }},
			{"Size is one more than 2^24", func(f *api.File) { f.Size = 1<<24 + 1 }},
			{"Size is 2^32", func(f *api.File) { f.Size = 1 << 32 }},
			{"the greatest Size", func(f *api.File) { f.Size = math.MaxInt }},
		} {
			for _, crc := range []uint32{f.Crc, f.Crc + 1} {
				wrong := f
				wrong.Crc = crc
				c.change(&wrong)
				isArg(t, c.what, b, wrong)
			}
		}
	}
}

// isArg holds that ErrArg is told of the file.
func isArg(t *testing.T, what string, b []byte, f api.File) {
	t.Helper()
	if out, e := Content(b, f); len(out) != 0 || e != api.ErrArg {
		t.Errorf("%s: Content: %x, %v, wanted ErrArg", what, out, e)
	}
	s := Read(b, f)
	if s == nil || s.Done() || s.Held() != 0 {
		t.Fatalf("%s: Read: %v", what, s)
	}
	over(t, what, s, api.ErrArg)
}

// P11.1: data that reach just to the archive's end, or begin there, are within it.
func TestDataAtTheEnd(t *testing.T) {
	for _, p := range []part{plainPart("n", "content"), packedPart("n", "content"), plainPart("n", "")} {
		for _, ahead := range []string{"", "ahead"} {
			brings(t, "at the end", []byte(ahead+p.data), p.file(len(ahead)), p.content(), api.OK, 1, 100)
		}
	}
	f := packedPart("n", "content").file(7)
	f.Csize = 0
	brings(t, "no packed data at the end", []byte("1234567"), f, "", api.ErrEnd, 1, 100)
}

// content is what the part's data are, by the library.
func (p part) content() string {
	b, f := p.alone()
	return string(unpacked(b, f))
}

// P11.1: sizes up to 2^24 may be.
func TestGreatestSize(t *testing.T) {
	content := strings.Repeat("\x00", 1<<24)
	for _, p := range []part{plainPart("n", content), packedPart("n", content)} {
		b, f := p.alone()
		brings(t, "2^24", b, f, content, api.OK, 65536)
		f.Size--
		brings(t, "one less is told", b, f, "", api.ErrSize, 65536)
		f.Size += 2
		isArg(t, "one more is told", b, f)
	}
	p := packedPart("n", content+"\x00")
	b, f := p.alone()
	isArg(t, "2^24 and one more", b, f)
	f.Size--
	brings(t, "2^24 and one more, of which 2^24 are told", b, f, "", api.ErrSize, 65536)
	f = plainPart("n", "short").file(0)
	f.Size = 1 << 24
	brings(t, "2^24 is told of five bytes", []byte("short"), f, "", api.ErrSize, 1, 100)
}

// hello is a stored block, not the last one, of hello.
const hello = "\x00\x05\x00\xfa\xffhello"

// wrongs are data that aren't right, with what is told of them by another packed size, size or sum, and the error.
var wrongs = []struct {
	what, data string
	method     int
	csize      int
	size       int
	crc        uint32
	e          api.Errno
}{
	{"plain", "hello", 0, 0, 5, 0, api.OK},
	{"plain, another sum", "hello", 0, 0, 5, 1, api.ErrSum},
	{"plain, another sum in its highest bit", "hello", 0, 0, 5, 1 << 31, api.ErrSum},
	{"plain, another byte", "hellp", 0, 0, 5, 0, api.ErrSum},
	{"plain, more data", "hello!", 0, 0, 5, 0, api.ErrSize},
	{"plain, many more data", strings.Repeat("hello", 30000), 0, 0, 5, 0, api.ErrSize},
	{"plain, fewer data", "hell", 0, 0, 5, 0, api.ErrSize},
	{"plain, no data", "", 0, 0, 5, 0, api.ErrSize},
	{"plain, some data of none", "hello", 0, 0, 0, 0, api.ErrSize},
	{"plain, fewer data and another sum", "hell", 0, 0, 5, 1, api.ErrSize},
	{"packed", "\x01\x05\x00\xfa\xffhello", 8, 0, 5, 0, api.OK},
	{"packed in two blocks", hello + "\x03\x00", 8, 0, 5, 0, api.OK},
	{"packed, another sum", hello + "\x03\x00", 8, 0, 5, 1, api.ErrSum},
	{"packed, another byte", "\x01\x05\x00\xfa\xffhellp", 8, 0, 5, 0, api.ErrSum},
	{"no packed data", "", 8, 0, 5, 0, api.ErrEnd},
	{"no packed data of nothing", "", 8, 0, 0, 0, api.ErrEnd},
	{"cut ahead of the last block", hello, 8, 0, 5, 0, api.ErrEnd},
	{"cut in the last block", hello + "\x03", 8, 0, 5, 0, api.ErrEnd},
	{"cut in the last block, another sum", hello + "\x03", 8, 0, 5, 1, api.ErrEnd},
	{"cut ahead of the last byte", hello[:9], 8, 0, 5, 0, api.ErrEnd},
	{"cut ahead of the first byte", hello[:5], 8, 0, 5, 0, api.ErrEnd},
	{"cut in a length", hello[:4], 8, 0, 5, 0, api.ErrEnd},
	{"spoilt at once", "\x07", 8, 0, 5, 0, api.ErrData},
	{"spoilt, of nothing", "\x07", 8, 0, 0, 0, api.ErrData},
	{"a spoilt length", "\x01\x05\x00\xfb\xffhello", 8, 0, 5, 0, api.ErrData},
	{"spoilt behind the last byte", hello + "\x07", 8, 0, 5, 0, api.ErrData},
	{"spoilt behind the last byte, another sum", hello + "\x07", 8, 0, 5, 1, api.ErrData},
	{"spoilt behind fewer bytes", "\x00\x04\x00\xfb\xffhell\x07", 8, 0, 5, 0, api.ErrData},
	{"fewer bytes", "\x01\x04\x00\xfb\xffhell", 8, 0, 5, 0, api.ErrSize},
	{"fewer bytes, and another sum", "\x01\x04\x00\xfb\xffhell", 8, 0, 5, 1, api.ErrSize},
	{"fewer bytes, and data behind", "\x01\x04\x00\xfb\xffhello", 8, 0, 5, 0, api.ErrSize},
	{"no bytes", "\x03\x00", 8, 0, 5, 0, api.ErrSize},
	{"more bytes", "\x01\x06\x00\xf9\xffhello!", 8, 0, 5, 0, api.ErrSize},
	{"more bytes, and another sum", "\x01\x06\x00\xf9\xffhello!", 8, 0, 5, 1, api.ErrSize},
	{"more bytes, and data behind", "\x01\x06\x00\xf9\xffhello!!", 8, 0, 5, 0, api.ErrSize},
	{"more bytes in another block", hello + "\x01\x01\x00\xfe\xff!", 8, 0, 5, 0, api.ErrSize},
	{"more bytes, and cut behind them", hello + "\x00\x01\x00\xfe\xff!", 8, 0, 5, 0, api.ErrSize},
	{"more bytes, and spoilt behind them", hello + "\x00\x01\x00\xfe\xff!\x07", 8, 0, 5, 0, api.ErrSize},
	{"more bytes, cut ahead of them", hello + "\x00\x01\x00\xfe\xff", 8, 0, 5, 0, api.ErrEnd},
	{"more bytes, spoilt ahead of them", hello + "\x00\x01\x00\xff\xff!", 8, 0, 5, 0, api.ErrData},
	{"some bytes of none", hello + "\x03\x00", 8, 0, 0, 0, api.ErrSize},
	{"some bytes of none, and cut", "\x00\x05\x00\xfa\xffh", 8, 0, 0, 0, api.ErrSize},
	{"a byte behind the end", hello + "\x03\x00\x00", 8, 0, 5, 0, api.ErrSize},
	{"a byte behind the end, another sum", hello + "\x03\x00\x00", 8, 0, 5, 1, api.ErrSize},
	{"many bytes behind the end", hello + "\x03\x00" + strings.Repeat("x", 100000), 8, 0, 5, 0, api.ErrSize},
	{"a byte behind the end of nothing", "\x03\x00\x00", 8, 0, 0, 0, api.ErrSize},
	{"a block behind the last one", "\x01\x05\x00\xfa\xffhello\x03\x00", 8, 0, 5, 0, api.ErrSize},
	{"bits behind the end, in its last byte", hello + "\x03\xfc", 8, 0, 5, 0, api.OK},
	{"nothing", "\x03\x00", 8, 0, 0, 0x3610a686, api.OK},
	{"nothing, another sum", "\x03\x00", 8, 0, 0, 0, api.ErrSum},
	{"plain nothing", "", 0, 0, 0, 0x3610a686, api.OK},
	{"plain nothing, another sum", "", 0, 0, 0, 0, api.ErrSum},
	{"the last block's bytes are behind the data", "\x01\x05\x00\xfa\xffhello", 8, -1, 5, 0, api.ErrEnd},
	{"plain, the last byte is behind the data", "hello", 0, -1, 5, 0, api.ErrSize},
	{"plain, the next byte is taken for data", "hello", 0, 1, 5, 0, api.ErrSize},
	{"the next byte is taken for data", "\x01\x05\x00\xfa\xffhello", 8, 1, 5, 0, api.ErrSize},
	{"packed, told to be plain", "\x01\x05\x00\xfa\xffhello", 0, 0, 5, 0, api.ErrSize},
	{"packed, told to be plain, of its length", "\x01\x05\x00\xfa\xffhello", 0, 0, 10, 0, api.ErrSum},
	{"plain, told to be packed", "hell", 8, 0, 5, 0, api.ErrEnd},
	{"plain, told to be packed, with a length that isn't", "hello", 8, 0, 5, 0, api.ErrData},
	{"plain, told to be packed, with a kind that isn't", "gello", 8, 0, 5, 0, api.ErrData},
}

// P11.1, P11.2, P11.3: errors of contents, alone and two at once, told at once, and behind pieces. (Sums are told by what is unlike hello's.)
func TestWrongContents(t *testing.T) {
	for _, c := range wrongs {
		f := api.File{Name: "n", Method: c.method, Crc: 0x3610a686 ^ c.crc, Csize: len(c.data) + c.csize, Size: c.size, At: 5}
		b := []byte("ahead" + c.data + "behind")
		want := ""
		if c.e == api.OK && c.size > 0 {
			want = "hello"
		}
		brings(t, c.what, b, f, want, c.e, mostsFor(5)...)
		if out, e := told(b, f); string(out) != want || e != c.e {
			t.Errorf("%s: the model has %q, %v", c.what, out, e)
		}
	}
}

// P11.1, P11.2, P11.3: data that are changed by chance, and what is told of them, too, are read as the model has it, in whatever pieces.
func TestChangedContents(t *testing.T) {
	errors := map[api.Errno]int{}
	for seed := range int64(4000) {
		x := rand.New(rand.NewSource(seed))
		content := noise(seed, x.Intn(1+x.Intn(400)), 1+x.Intn(20))
		p := []func(name, content string) part{plainPart, packedPart}[x.Intn(2)]("n", content)
		b, f := p.alone()
		for range x.Intn(3) {
			switch x.Intn(7) {
			case 0, 1:
				b[x.Intn(len(b))] ^= 1 << x.Intn(8)
			case 2:
				f.Csize += x.Intn(5) - 2
			case 3:
				f.Size += x.Intn(5) - 2
			case 4:
				f.Crc ^= 1 << x.Intn(32)
			case 5:
				f.At += x.Intn(25) - 12
			case 6:
				f.Method = 8 - f.Method
			}
		}
		want, wanted := told(b, f)
		errors[wanted]++
		what := fmt.Sprint("changed content ", seed)
		brings(t, what, b, f, string(want), wanted, 1+x.Intn(100), 1)
		out, e := pieces(t, what, Read(b, f), func() int { return x.Intn(20) - 1 })
		if e != wanted || e == api.OK && string(out) != string(want) {
			t.Errorf("%s: %x, %v, wanted %x, %v", what, out, e, want, wanted)
		}
	}
	for _, e := range []api.Errno{api.OK, api.ErrArg, api.ErrEnd, api.ErrData, api.ErrSize, api.ErrSum} {
		if errors[e] < 20 {
			t.Errorf("%v was told %d times only", e, errors[e])
		}
	}
}
