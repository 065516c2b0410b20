package zip

import (
	"fmt"
	"math/rand"
	"slices"
	"strconv"
	"strings"
	"testing"

	"inquest/api"
)

// nothing is an archive of no items.
const nothing = "PK\x05\x06\x00\x00\x00\x00\x00\x00\x00\x00\x00\x00\x00\x00\x00\x00\x00\x00\x00\x00"

// byHand is an archive of a.txt, which is hello, plain, and of b, which is a, by the fixed codes, written out.
const byHand = "PK\x03\x04\x14\x00\x00\x00\x00\x00\x01\x02\x5d\x58\x86\xa6\x10\x36\x05\x00\x00\x00\x05\x00\x00\x00\x05\x00\x00\x00a.txthello" +
	"PK\x03\x04\x14\x00\x00\x00\x08\x00\x00\x00\x21\x00\x43\xbe\xb7\xe8\x03\x00\x00\x00\x01\x00\x00\x00\x01\x00\x00\x00b\x4b\x04\x00" +
	"PK\x01\x02\x14\x00\x14\x00\x00\x00\x00\x00\x01\x02\x5d\x58\x86\xa6\x10\x36\x05\x00\x00\x00\x05\x00\x00\x00\x05\x00\x00\x00\x00\x00\x00\x00\x00\x00\x00\x00\x00\x00\x00\x00\x00\x00a.txt" +
	"PK\x01\x02\x14\x00\x14\x00\x00\x00\x08\x00\x00\x00\x21\x00\x43\xbe\xb7\xe8\x03\x00\x00\x00\x01\x00\x00\x00\x01\x00\x00\x00\x00\x00\x00\x00\x00\x00\x00\x00\x00\x00\x28\x00\x00\x00b" +
	"PK\x05\x06\x00\x00\x00\x00\x02\x00\x02\x00\x62\x00\x00\x00\x4a\x00\x00\x00\x00\x00"

// wideByHand is an archive of é, which is a, plain, described, by the code page, and of ж, which is a, by the fixed codes, wide and described, in UTF-8, written out.
const wideByHand = "PK\x03\x04\x14\x00\x08\x00\x00\x00\x00\x00\x21\x00\x00\x00\x00\x00\x00\x00\x00\x00\x00\x00\x00\x00\x01\x00\x00\x00\x82a" +
	"PK\x07\x08\x43\xbe\xb7\xe8\x01\x00\x00\x00\x01\x00\x00\x00" +
	"PK\x03\x04\x2d\x00\x08\x08\x08\x00\x00\x00\x21\x00\x00\x00\x00\x00\xff\xff\xff\xff\xff\xff\xff\xff\x02\x00\x14\x00\xd0\xb6" +
	"\x01\x00\x10\x00\x00\x00\x00\x00\x00\x00\x00\x00\x00\x00\x00\x00\x00\x00\x00\x00\x4b\x04\x00" +
	"PK\x07\x08\x43\xbe\xb7\xe8\x03\x00\x00\x00\x00\x00\x00\x00\x01\x00\x00\x00\x00\x00\x00\x00" +
	"PK\x01\x02\x14\x00\x14\x00\x08\x00\x00\x00\x00\x00\x21\x00\x43\xbe\xb7\xe8\x01\x00\x00\x00\x01\x00\x00\x00\x01\x00\x00\x00\x00\x00\x00\x00\x00\x00\x00\x00\x00\x00\x00\x00\x00\x00\x82" +
	"PK\x01\x02\x2d\x00\x2d\x00\x08\x08\x08\x00\x00\x00\x21\x00\x43\xbe\xb7\xe8\xff\xff\xff\xff\xff\xff\xff\xff\x02\x00\x1c\x00\x00\x00\x00\x00\x00\x00\x00\x00\x00\x00\xff\xff\xff\xff\xd0\xb6" +
	"\x01\x00\x18\x00\x01\x00\x00\x00\x00\x00\x00\x00\x03\x00\x00\x00\x00\x00\x00\x00\x30\x00\x00\x00\x00\x00\x00\x00" +
	"PK\x06\x06\x2c\x00\x00\x00\x00\x00\x00\x00\x2d\x00\x2d\x00\x00\x00\x00\x00\x00\x00\x00\x00\x02\x00\x00\x00\x00\x00\x00\x00\x02\x00\x00\x00\x00\x00\x00\x00\x7b\x00\x00\x00\x00\x00\x00\x00\x7f\x00\x00\x00\x00\x00\x00\x00" +
	"PK\x06\x07\x00\x00\x00\x00\xfa\x00\x00\x00\x00\x00\x00\x00\x01\x00\x00\x00" +
	"PK\x05\x06\x00\x00\x00\x00\xff\xff\xff\xff\xff\xff\xff\xff\xff\xff\xff\xff\x00\x00"

// P12.1: an archive of no items is 22 bytes.
func TestNothing(t *testing.T) {
	for _, l := range [][]api.Item{nil, {}, make([]api.Item, 0, 9)} {
		if b := makes(t, "nothing", l...); string(b) != nothing {
			t.Errorf("%x", b)
		}
	}
}

// P12.1: archives that are written out by hand.
func TestByHand(t *testing.T) {
	b := makes(t, "by hand", api.Item{Name: "a.txt", Dos: 0x585d0201, Data: []byte("hello")}, api.Item{Name: "b", Dos: dawn, Data: []byte("a"), How: 1})
	if string(b) != byHand {
		t.Errorf("%q", b)
	}
	b = makes(t, "wide, by hand", api.Item{Name: "é", Dos: dawn, Data: []byte("a"), Described: true}, api.Item{Name: "ж", Dos: dawn, Data: []byte("a"), How: 1, Wide: true, Described: true})
	if string(b) != wideByHand {
		t.Errorf("%q", b)
	}
}

// texts are data of several kinds.
func texts() []string {
	x := rand.New(rand.NewSource(1))
	noise := make([]byte, 3000)
	x.Read(noise)
	return []string{"", "a", "hello", strings.Repeat("a", 30), strings.Repeat("one, two, three ", 300), string(noise), string(noise[:70]), byHand, wideByHand, nothing}
}

// names are some of an entry's, by the code page and in UTF-8.
func names() []string {
	return []string{"a.txt", "b/two", "é", "ж", "Ünïcode", "naïve.жук", " ", "../up", "\u00a0", "\U0001f600", strings.Repeat("n", 40), "√ⁿ²■"}
}

// P12.1, P12.2: archives of one item: packed in each way, wide or not, described or not, by the code page and in UTF-8.
func TestOneItem(t *testing.T) {
	for _, text := range texts() {
		for _, name := range names() {
			for k := range 16 {
				i := api.Item{Name: name, Dos: 1482489856 + k, Data: []byte(text), How: k % 4, Wide: k&4 != 0, Described: k&8 != 0}
				makes(t, fmt.Sprintf("%s, %s, %d", name, short(text), k), i)
			}
		}
	}
}

// several are items of all kinds, none like another one.
func several() []api.Item {
	var l []api.Item
	for k := range 48 {
		n := names()[k%len(names())]
		l = append(l, api.Item{Name: (strconv.Itoa(k) + n)[:min(40, len(n)+len(strconv.Itoa(k)))], Dos: dawn + k%31<<16 + k<<5, Data: []byte(texts()[k%len(texts())]), How: k % 4, Wide: k/4%2 == 1, Described: k/8%2 == 1})
	}
	return l
}

// P12.1, P12.2: archives of several items have them in the order in which they are handed over.
func TestSeveralItems(t *testing.T) {
	l := several()
	makes(t, "several", l...)
	slices.Reverse(l)
	makes(t, "backwards", l...)
	x := rand.New(rand.NewSource(2))
	for k := range 60 {
		x.Shuffle(len(l), func(i, j int) { l[i], l[j] = l[j], l[i] })
		makes(t, fmt.Sprint("shuffled ", k), l[:x.Intn(len(l))]...)
	}
}

// P12.1: the tail is wide, if some item is, whichever it is; a head is wide just if its own item is.
func TestOneIsWide(t *testing.T) {
	const long, more = 22, 56 + 20
	var l []api.Item
	for k := range 5 {
		l = append(l, api.Item{Name: strconv.Itoa(k), Dos: dawn, Data: []byte("data"), Described: k%2 == 0})
	}
	narrow := makes(t, "none is wide", l...)
	if string(narrow[len(narrow)-long:][:12]) != "PK\x05\x06\x00\x00\x00\x00\x05\x00\x05\x00" {
		t.Errorf("the tail %q", narrow[len(narrow)-long:])
	}
	for k := range l {
		l[k].Wide = true
		b := makes(t, fmt.Sprint(k, " is wide"), l...)
		beside := 20 + 28 + 8*(1-k%2)
		if len(b) != len(narrow)+more+beside || string(b[len(b)-long-more:][:4]) != "PK\x06\x06" || string(b[len(b)-long-20:][:4]) != "PK\x06\x07" {
			t.Errorf("%d is wide: %q", k, b)
		}
		l[k].Wide = false
	}
}

// P12.1: behind data that are described stand their sum and their sizes, in a wide one in 8 bytes each; behind others nothing.
func TestDescribed(t *testing.T) {
	sum, wides := "\x86\xa6\x10\x36", "\x00\x00\x00\x00"
	for _, c := range []struct {
		wide, described bool
		behind          string
	}{
		{false, false, ""},
		{true, false, ""},
		{false, true, "PK\x07\x08" + sum + "\x05\x00\x00\x00\x05\x00\x00\x00"},
		{true, true, "PK\x07\x08" + sum + "\x05\x00\x00\x00" + wides + "\x05\x00\x00\x00" + wides},
	} {
		b := makes(t, "described", api.Item{Name: "n", Dos: dawn, Data: []byte("hello"), Wide: c.wide, Described: c.described}, api.Item{Name: "next", Dos: dawn})
		_, behind, _ := strings.Cut(string(b), "hello")
		if got, _, _ := strings.Cut(behind, "PK\x03\x04"); got != c.behind {
			t.Errorf("wide %v, described %v: %q, wanted %q", c.wide, c.described, got, c.behind)
		}
	}
}

// P12.1, P12.2: archives of any items, against the model.
func TestAnyItems(t *testing.T) {
	refused := 0
	for seed := range int64(1500) {
		x := rand.New(rand.NewSource(seed))
		if b := asModel(t, fmt.Sprint("seed ", seed), anyItems(x)...); b == nil {
			refused++
		}
	}
	if refused == 0 || refused > 750 {
		t.Errorf("%d are refused", refused)
	}
}

// anyItems are items by chance, of which most may be.
func anyItems(x *rand.Rand) []api.Item {
	l := make([]api.Item, x.Intn(9))
	for k := range l {
		data := make([]byte, x.Intn(1+x.Intn(400)))
		kinds := 1 + x.Intn(256)
		for j := range data {
			data[j] = byte(x.Intn(kinds))
		}
		l[k] = api.Item{Name: names()[x.Intn(len(names()))], Dos: dawn + x.Intn(24)<<11, Data: data, How: x.Intn(4), Wide: x.Intn(3) == 0, Described: x.Intn(3) == 0}
		if x.Intn(8) > 0 {
			l[k].Name = strconv.Itoa(k) + string(rune(160+x.Intn(900)))
		}
		if x.Intn(60) == 0 {
			wrongs()[x.Intn(len(wrongs()))].change(&l[k])
		}
	}
	return l
}
