package zip

import (
	"archive/zip"
	"bytes"
	"fmt"
	"io"
	"strings"
	"testing"
	"time"

	"inquest/api"
)

// P12.2: the library reads what is made, as just these items.
func TestLibraryReads(t *testing.T) {
	l := several()
	for k := range l {
		byLibrary(t, fmt.Sprint(k), l[k:k+1])
	}
	byLibrary(t, "several", l)
	byLibrary(t, "1000", right(1000))
	byLibrary(t, "none", nil)
}

// byLibrary holds what the library reads of an archive of the items against them.
func byLibrary(t *testing.T, what string, items []api.Item) {
	t.Helper()
	b := makes(t, what, items...)
	z, err := zip.NewReader(bytes.NewReader(b), int64(len(b)))
	if err != nil || len(z.File) != len(items) || z.Comment != "" {
		t.Fatalf("%s: %v, %v", what, z, err)
	}
	for k, i := range items {
		f := z.File[k]
		raw, flags := rawName(i.Name)
		if f.Name != raw || f.Flags != uint16(flags|8*number(i.Described)) || f.Comment != "" || f.ExternalAttrs != 0 {
			t.Errorf("%s: %q is %q, flags %d", what, i.Name, f.Name, f.Flags)
		}
		if got := f.Modified.In(time.UTC); asNumber(got) != i.Dos {
			t.Errorf("%s: %q is of %v, wanted %d", what, i.Name, got, i.Dos)
		}
		if wide := f.ReaderVersion == 45; wide != i.Wide || f.CreatorVersion != f.ReaderVersion || (len(f.Extra) > 0) != i.Wide {
			t.Errorf("%s: %q has the version %d, and beside %x", what, i.Name, f.ReaderVersion, f.Extra)
		}
		if f.UncompressedSize64 != uint64(len(i.Data)) {
			t.Errorf("%s: %q has %d bytes", what, i.Name, f.UncompressedSize64)
		}
		if strings.HasSuffix(i.Name, "/") {
			continue
		}
		r, err := f.Open()
		if err != nil {
			t.Fatalf("%s: %q: %v", what, i.Name, err)
		}
		if data, err := io.ReadAll(r); !bytes.Equal(data, i.Data) || err != nil {
			t.Errorf("%s: %q: %s, %v", what, i.Name, short(string(data)), err)
		}
	}
}

// number is 1 of what is, else 0.
func number(is bool) int {
	if is {
		return 1
	}
	return 0
}

// asNumber is the number of the library's moment.
func asNumber(m time.Time) int {
	return (m.Year()-1980)<<25 | int(m.Month())<<21 | m.Day()<<16 | m.Hour()<<11 | m.Minute()<<5 | m.Second()/2
}
