package unzip

import (
	"archive/zip"
	"bytes"
	"fmt"
	"hash/crc32"
	"io"
	"strings"
	"testing"

	"inquest/api"
	"inquest/deflate"
	"inquest/record"
)

// byLibrary is an archive of the contents, plain and packed by turns, as the library writes it: with sizes behind the data, or, if it knows them, without.
func byLibrary(t *testing.T, known bool) []byte {
	t.Helper()
	var out bytes.Buffer
	w := zip.NewWriter(&out)
	for i, content := range contents() {
		h := &zip.FileHeader{Name: fmt.Sprint("é/", i), Method: []uint16{zip.Store, zip.Deflate}[i%2], Comment: strings.Repeat("c", i), Extra: []byte("\x99\x99\x01\x00e")}
		data, create := content, w.CreateHeader
		if known {
			if i%2 == 1 {
				data = pack(content)
			}
			h.CRC32, h.CompressedSize64, h.UncompressedSize64 = crc32.ChecksumIEEE([]byte(content)), uint64(len(data)), uint64(len(content))
			h.Flags, create = api.Utf8, w.CreateRaw
		}
		x, err := create(h)
		if err != nil {
			t.Fatal(err)
		}
		io.WriteString(x, data)
	}
	w.SetComment("the whole's comment")
	if err := w.Close(); err != nil {
		t.Fatal(err)
	}
	return out.Bytes()
}

// P11.1, P11.2: what the library writes is read.
func TestLibraryIsRead(t *testing.T) {
	for _, known := range []bool{false, true} {
		b := byLibrary(t, known)
		l, e := Open(b)
		if e != api.OK || len(l) != len(contents()) {
			t.Fatal(len(l), e)
		}
		for i, content := range contents() {
			f := l[i]
			if f.Name != fmt.Sprint("é/", i) || f.Size != len(content) || f.Method != 8*(i%2) || f.Crc != crc32.ChecksumIEEE([]byte(content)) {
				t.Errorf("%d: %v", i, f)
			}
			brings(t, f.Name, b, f, content, api.OK, 1000, 65536)
		}
	}
}

// byRecord is an archive of the contents, packed by turns, as the layers below write it.
func byRecord(t *testing.T, wide, describes bool) []byte {
	t.Helper()
	var b, all []byte
	for i, content := range contents() {
		h := api.Head{Dos: i, Crc: crc32.ChecksumIEEE([]byte(content)), Size: len(content), At: len(b), Name: []byte(fmt.Sprint("n", i)), Wide: wide}
		data := []byte(content)
		if i%2 == 1 {
			data, _ = deflate.Pack(data, deflate.Fixed)
			h.Method = 8
		}
		if describes {
			h.Flags = api.Described
		}
		h.Csize = len(data)
		local, e := record.Local(h)
		central, f := record.Central(h)
		if e != api.OK || f != api.OK {
			t.Fatal(e, f)
		}
		b = append(append(append(b, local...), data...), record.Behind(h)...)
		all = append(all, central...)
	}
	end, e := record.End(api.Tail{Many: len(contents()), Long: len(all), At: len(b), Wide: wide}, len(b)+len(all))
	if e != api.OK {
		t.Fatal(e)
	}
	return append(append(b, all...), end...)
}

// P11.1, P11.2: archives are read that are wide, and that have sizes behind the data, too.
func TestWideAndDescribed(t *testing.T) {
	for k := range 4 {
		b := byRecord(t, k&1 != 0, k&2 != 0)
		l, e := Open(b)
		if e != api.OK || len(l) != len(contents()) {
			t.Fatal(len(l), e)
		}
		for i, content := range contents() {
			f := l[i]
			if f.Name != fmt.Sprint("n", i) || f.Dos != i || f.Size != len(content) || f.Method != 8*(i%2) || f.Crc != crc32.ChecksumIEEE([]byte(content)) {
				t.Errorf("%d: %v", i, f)
			}
			brings(t, f.Name, b, f, content, api.OK, 1000)
		}
	}
}

// P11.1: sizes count as they are, whether a head tells them wide, or not.
func TestOneHeadIsWide(t *testing.T) {
	for k := range 4 {
		w := some()
		p := &w.parts[k%2]
		if k < 2 {
			p.local.beside = join(n2(1), n2(16), n8(p.local.size), n8(p.local.csize))
			p.local.size, p.local.csize = 0xffffffff, 0xffffffff
		} else {
			p.central.beside = join(n2(1), n2(8), n8(p.central.size))
			p.central.size = 0xffffffff
		}
		opens(t, "one head is wide", w.bytes(), withSizes(placed(w), some()), api.OK)
	}
	w := some()
	w.parts[1].local.beside = join(n2(1), n2(8), n8(7))
	w.parts[1].local.size = 0xffffffff
	opens(t, "a wide size that is another one", w.bytes(), nil, api.ErrForm)
}

// withSizes are the files with the archive's sizes.
func withSizes(l []api.File, w whole) []api.File {
	for i := range l {
		l[i].Size = w.parts[i].central.size
	}
	return l
}
