package unzip

import (
	"bytes"
	"math/rand"
	"slices"
	"strings"
	"testing"

	"inquest/api"
	"inquest/name"
	"inquest/record"
)

// opened is what the document tells of an archive: of each entry its rules in a row, of which the first one that is broken is told.
func opened(b []byte) ([]api.File, api.Errno) {
	tail, e := record.Find(b)
	if e != api.OK {
		return nil, e
	}
	if tail.At+tail.Long > len(b) {
		return nil, api.ErrEnd
	}
	if tail.Many > 1000 {
		return nil, api.ErrMany
	}
	var heads []api.Head
	next := tail.At
	for len(heads) < tail.Many {
		var h api.Head
		if h, next, e = record.GetCentral(b, next); e != api.OK {
			return nil, e
		}
		heads = append(heads, h)
	}
	if next-tail.At != tail.Long {
		return nil, api.ErrForm
	}
	var files []api.File
	for _, h := range heads {
		text, decoded := name.Decode(h.Name, h.Flags&2048 == 2048)
		local, at, e := record.GetLocal(b, h.At)
		for _, rule := range []struct {
			broken bool
			e      api.Errno
		}{
			{!decoded, api.ErrForm},
			{!name.May(text), api.ErrForm},
			{slices.ContainsFunc(files, func(f api.File) bool { return f.Name == text }), api.ErrTwice},
			{h.Flags%2 == 1, api.ErrMethod},
			{h.Method != 0 && h.Method != 8, api.ErrMethod},
			{e != api.OK, e},
			{string(local.Name) != string(h.Name), api.ErrForm},
			{local.Method != h.Method, api.ErrForm},
			{local.Flags&8 == 0 && local.Crc != h.Crc, api.ErrForm},
			{local.Flags&8 == 0 && local.Csize != h.Csize, api.ErrForm},
			{local.Flags&8 == 0 && local.Size != h.Size, api.ErrForm},
			{at+h.Csize > tail.At, api.ErrEnd},
			{h.Method == 0 && h.Csize != h.Size, api.ErrSize},
		} {
			if rule.broken {
				return nil, rule.e
			}
		}
		files = append(files, api.File{Name: text, Method: h.Method, Dos: h.Dos, Crc: h.Crc, Csize: h.Csize, Size: h.Size, At: at})
	}
	return files, api.OK
}

// archives are archives of few bytes.
func archives() [][]byte {
	wide := some()
	wide.parts[0].central.beside = join(n2(1), n2(8), n8(5))
	wide.parts[0].central.size = 0xffffffff
	describes := some()
	for i := range describes.parts {
		described(&describes, i)
	}
	var same whole
	for _, name := range strings.Split("abcdefgh", "") {
		same.parts = append(same.parts, plainPart(name, ""))
	}
	tail, _ := record.End(api.Tail{Many: 3, Long: 5, At: 7, Wide: true}, 0)
	return [][]byte{[]byte(byHand), []byte(nothing), some().bytes(), errors4().bytes(), wide.bytes(), describes.bytes(), same.bytes(), tail}
}

// change changes a byte of b by chance: to what is likely to be told in a head, or to anything.
func change(x *rand.Rand, b []byte) {
	if len(b) > 0 {
		b[x.Intn(len(b))] = []byte{0, 1, 2, 8, 9, 255, 'P', 'a', byte(x.Intn(256))}[x.Intn(9)]
	}
}

// R1, R2, W5: any bytes are read to an end, as the model has it; and so is each content.
func TestAnyBytes(t *testing.T) {
	errors := map[api.Errno]int{}
	all := archives()
	for seed := range int64(60000) {
		x := rand.New(rand.NewSource(seed))
		b := slices.Clone(all[x.Intn(len(all))])
		for range x.Intn(4) {
			change(x, b)
		}
		switch x.Intn(12) {
		case 0:
			b = b[:len(b)-x.Intn(min(len(b), 4)+1)]
		case 1:
			b = append([]byte(strings.Repeat("-", x.Intn(3))), b...)
		case 2:
			b = append(b, all[x.Intn(len(all))]...)
		case 3:
			b = bytes.ReplaceAll(b, []byte{byte('a' + x.Intn(8))}, []byte{byte('a' + x.Intn(8))})
		}
		want, wanted := opened(b)
		l, e := Open(b)
		if e != wanted || !slices.Equal(l, want) {
			t.Fatalf("%x: %s, %v, wanted %s, %v", b, tell(l), e, tell(want), wanted)
		}
		errors[e]++
		for _, f := range l {
			if f.Size < 1000 {
				content, e := told(b, f)
				brings(t, "any bytes", b, f, string(content), e, 1+x.Intn(20))
			}
		}
	}
	for _, e := range []api.Errno{api.OK, api.ErrEnd, api.ErrForm, api.ErrTwice, api.ErrMethod, api.ErrSize, api.ErrMany} {
		if errors[e] < 50 {
			t.Errorf("%v was told %d times only", e, errors[e])
		}
	}
}

// R1, W5: bytes of no form at all, and their pieces, are read to an end.
func TestBytesWithoutForm(t *testing.T) {
	for seed := range int64(3000) {
		x := rand.New(rand.NewSource(seed))
		b := []byte(noise(seed, x.Intn(300), 1+x.Intn(256)))
		tail := join("PK\x05\x06", n2(0), n2(0), n2(x.Intn(3)), n2(x.Intn(3)), n4(x.Intn(100)), n4(x.Intn(100)), n2(0))
		for _, b := range [][]byte{b, append(b, tail...)} {
			want, wanted := opened(b)
			opens(t, "without form", b, want, wanted)
			f := api.File{Method: 8 * x.Intn(2), Csize: x.Intn(len(b) + 2), Size: x.Intn(100), At: x.Intn(len(b) + 2)}
			content, e := told(b, f)
			brings(t, "without form", b, f, string(content), e, 1+x.Intn(20))
		}
	}
}
