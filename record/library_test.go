package record

import (
	"archive/zip"
	"bytes"
	"hash/crc32"
	"io"
	"strings"
	"testing"

	"inquest/api"
)

// stored are names and data.
var stored = []struct{ name, data string }{{"one.txt", "hello"}, {"b/two", ""}, {"\xd0\xb6", strings.Repeat("long ", 2000)}, {"n", "\x00"}}

// made is an archive of what is stored, made of what these calls put.
func made(t *testing.T, wide, described bool) []byte {
	t.Helper()
	var b, all []byte
	for _, s := range stored {
		n := len(s.data)
		h := api.Head{Dos: 1482489856, Crc: crc32.ChecksumIEEE([]byte(s.data)), Csize: n, Size: n, At: len(b), Name: []byte(s.name), Wide: wide}
		if described {
			h.Flags |= api.Described
		}
		local, e := Local(h)
		central, f := Central(h)
		if e != api.OK || f != api.OK {
			t.Fatal(e, f)
		}
		b = append(append(append(b, local...), s.data...), Behind(h)...)
		all = append(all, central...)
	}
	end, e := End(api.Tail{Many: len(stored), Long: len(all), At: len(b), Wide: wide}, len(b)+len(all))
	if e != api.OK {
		t.Fatal(e)
	}
	return append(append(b, all...), end...)
}

// P10.1: the library reads an archive that is made of what is put, wide or not, with sizes behind the data or not.
func TestLibraryReads(t *testing.T) {
	for _, wide := range []bool{false, true} {
		for _, described := range []bool{false, true} {
			b := made(t, wide, described)
			z, err := zip.NewReader(bytes.NewReader(b), int64(len(b)))
			if err != nil {
				t.Errorf("wide %v, described %v: %v", wide, described, err)
				continue
			}
			for i, f := range z.File {
				r, err := f.Open()
				if err != nil {
					t.Fatal(err)
				}
				data, err := io.ReadAll(r)
				if f.Name != stored[i].name || string(data) != stored[i].data || err != nil {
					t.Errorf("wide %v, described %v: %q, %d bytes, %v", wide, described, f.Name, len(data), err)
				}
			}
			if len(z.File) != len(stored) {
				t.Errorf("%d files", len(z.File))
			}
		}
	}
}

// P10.2: what the library writes is read: the tail with its comment, the central heads, and the local head of each.
func TestLibraryIsRead(t *testing.T) {
	var out bytes.Buffer
	w := zip.NewWriter(&out)
	for i, s := range stored {
		h := &zip.FileHeader{Name: s.name, Method: []uint16{zip.Store, zip.Deflate}[i%2], Comment: strings.Repeat("c", i), Extra: []byte(other(0x1234, strings.Repeat("e", i)))}
		x, err := w.CreateHeader(h)
		if err != nil {
			t.Fatal(err)
		}
		io.WriteString(x, s.data)
	}
	w.SetComment("the whole's comment")
	if err := w.Close(); err != nil {
		t.Fatal(err)
	}
	b := out.Bytes()
	tail, e := Find(b)
	if e != api.OK || tail.Many != len(stored) || tail.Wide {
		t.Fatal(tail, e)
	}
	at := tail.At
	for i, s := range stored {
		h, next, e := GetCentral(b, at)
		if e != api.OK || string(h.Name) != s.name || h.Size != len(s.data) || h.Crc != crc32.ChecksumIEEE([]byte(s.data)) || h.Wide {
			t.Fatal(i, h, e)
		}
		l, data, e := GetLocal(b, h.At)
		if e != api.OK || string(l.Name) != s.name || l.Method != h.Method || l.At != h.At || l.Flags != h.Flags {
			t.Error(i, l, e)
		}
		if h.Method == 0 && string(b[data:data+h.Csize]) != s.data {
			t.Error(i, data)
		}
		if behind := Behind(h); !bytes.HasPrefix(b[data+h.Csize:], behind) || h.Flags&api.Described != 0 && len(behind) != 16 {
			t.Errorf("%d: %x behind", i, behind)
		}
		at = next
	}
	if at != tail.At+tail.Long {
		t.Error(at, tail)
	}
}

// P10.2: more entries than stand in 2 bytes, as the library writes them.
func TestManyEntries(t *testing.T) {
	var out bytes.Buffer
	w := zip.NewWriter(&out)
	const many = 65536
	for range many {
		if _, err := w.CreateRaw(&zip.FileHeader{Name: "n"}); err != nil {
			t.Fatal(err)
		}
	}
	if err := w.Close(); err != nil {
		t.Fatal(err)
	}
	b := out.Bytes()
	tail, e := Find(b)
	if e != api.OK || tail.Many != many || !tail.Wide {
		t.Fatal(tail, e)
	}
	at := tail.At
	for range many {
		h, next, e := GetCentral(b, at)
		if e != api.OK || string(h.Name) != "n" {
			t.Fatal(h, e)
		}
		at = next
	}
	if at != tail.At+tail.Long {
		t.Error(at, tail)
	}
}
