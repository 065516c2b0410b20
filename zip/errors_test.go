package zip

import (
	"fmt"
	"math"
	"slices"
	"strconv"
	"strings"
	"testing"

	"inquest/api"
)

// change is what makes an item one that may not be.
type change struct {
	what   string
	change func(i *api.Item)
}

// wrongNames may not be an entry's.
func wrongNames() []string {
	return []string{
		"", strings.Repeat("n", 41), strings.Repeat("é", 20) + "a", strings.Repeat("ж", 21), strings.Repeat("n", 1000),
		"\x00", "\n", "a\x1f", "\x7f", "a\x7fb", "\xff", "a\x80", "\xc3", "\xc0\x80", "\xed\xa0\x80", "\xf4\x90\x80\x80", "ж\xd0",
	}
}

// wrongMoments are no moment's numbers.
func wrongMoments() []int {
	return []int{
		0, 1, -1, dawn - 1, 1 << 21, 1 << 16, 2 << 16, 13<<21 | 1<<16, 2<<21 | 30<<16, 1<<25 | 2<<21 | 29<<16, 120<<25 | 2<<21 | 29<<16, 4<<21 | 31<<16,
		dawn | 24<<11, dawn | 60<<5, dawn | 30, dawn | 31, dawn | 0xffff, 127<<25 | 12<<21 | 31<<16 | 23<<11 | 59<<5 | 30, math.MaxUint32, 1<<32 | dawn, -1<<32 | dawn, 1<<63 - 1, -1 << 63, -dawn,
	}
}

// wrongWays are ways to pack that there aren't.
func wrongWays() []int {
	return []int{-1, 4, 5, 8, -2, 255, 256, 1 << 32, 1<<32 + 1, math.MaxInt, math.MinInt}
}

// wrongs are all these, and too many data.
func wrongs() []change {
	var l []change
	for _, n := range wrongNames() {
		l = append(l, change{fmt.Sprintf("the name %q", n), func(i *api.Item) { i.Name = n }})
	}
	for _, n := range wrongMoments() {
		l = append(l, change{fmt.Sprintf("the moment %d", n), func(i *api.Item) { i.Dos = n }})
	}
	for _, n := range wrongWays() {
		l = append(l, change{fmt.Sprintf("the way %d", n), func(i *api.Item) { i.How = n }})
	}
	return append(l, change{"too many data", func(i *api.Item) { i.Data = tooMany }})
}

// tooMany are data of one byte more than may be.
var tooMany = make([]byte, 1<<24+1)

// right are so many items that may be.
func right(many int) []api.Item {
	var l []api.Item
	for k := range many {
		l = append(l, api.Item{Name: "n" + strconv.Itoa(k), Dos: dawn, Data: []byte(strconv.Itoa(k)), How: k % 4})
	}
	return l
}

// refuses tells whether Make answers the error, and nothing beside.
func refuses(t *testing.T, what string, wanted api.Errno, items ...api.Item) {
	t.Helper()
	if b, e := Make(items...); b != nil || e != wanted {
		t.Errorf("%s: %s, %v, wanted %v", what, short(string(b)), e, wanted)
	}
}

// P12.1: an item that may not be is ErrArg, alone and wherever it stands among others.
func TestWrongItems(t *testing.T) {
	for _, c := range wrongs() {
		i := right(1)[0]
		c.change(&i)
		if May(i) || mayBe(i) {
			t.Errorf("%s may be", c.what)
		}
		refuses(t, c.what, api.ErrArg, i)
		for k := range 4 {
			refuses(t, fmt.Sprint(c.what, " at ", k), api.ErrArg, slices.Insert(right(3), k, i)...)
		}
		refuses(t, c.what+", the last of 1000", api.ErrArg, append(right(999), i)...)
		for how := range 16 {
			i := api.Item{Name: "n", Dos: dawn, How: how % 4, Wide: how&4 != 0, Described: how&8 != 0}
			c.change(&i)
			refuses(t, c.what, api.ErrArg, i)
		}
	}
	refuses(t, "an item of zeros", api.ErrArg, api.Item{})
	refuses(t, "an item without a moment", api.ErrArg, api.Item{Name: "a"})
	refuses(t, "an item without a name", api.ErrArg, api.Item{Dos: dawn})
}

// P12.1: two wrong things of an item, and two wrong items, are ErrArg, too.
func TestTwoWrongThings(t *testing.T) {
	for j, c := range wrongs() {
		for _, d := range wrongs()[:j] {
			one, two := right(1)[0], right(2)[1]
			c.change(&one)
			d.change(&two)
			refuses(t, c.what+", and "+d.what, api.ErrArg, one, two)
			d.change(&one)
			refuses(t, c.what+" and "+d.what, api.ErrArg, one)
			if May(one) {
				t.Errorf("%s and %s may be", c.what, d.what)
			}
		}
	}
}

// P12.1: two items of one name are ErrTwice, wherever they stand, and whatever else is unlike in them.
func TestTwice(t *testing.T) {
	for many := 2; many <= 6; many++ {
		for j := range many {
			for k := range j {
				l := right(many)
				l[j].Name = l[k].Name
				refuses(t, fmt.Sprintf("%d and %d of %d", k, j, many), api.ErrTwice, l...)
			}
		}
	}
	for _, n := range names() {
		one := api.Item{Name: n, Dos: dawn}
		refuses(t, n, api.ErrTwice, one, one)
		refuses(t, n, api.ErrTwice, one, right(1)[0], one, one)
		refuses(t, n, api.ErrTwice, one, api.Item{Name: strings.Clone(n), Dos: dawn + 1, Data: []byte("d"), How: 3, Wide: true, Described: true})
	}
	l := right(1000)
	l[999].Name = l[0].Name
	refuses(t, "the first and the last of 1000", api.ErrTwice, l...)
	l = right(1000)
	l[999].Name = l[998].Name
	refuses(t, "the last two of 1000", api.ErrTwice, l...)
}

// P12.1: names that aren't one stand side by side, also if their bytes are, or they look alike.
func TestNamesThatAreUnlike(t *testing.T) {
	makes(t, "unlike", items("a", "A", "a/", "/a", "a ", " a", "a.", "ab", "b")...)
	// é is the byte 82, and ├⌐ the two bytes that é has in UTF-8; the third one has them in UTF-8 beside a rune without a byte.
	makes(t, "bytes that are alike", items("é", "├⌐", "e\u0301", "éж", "├⌐ж")...)
	// The bytes of ж in UTF-8 are those of ╨╢ by the code page: they stand in both heads of both, and are the first one's data.
	b := makes(t, "the same bytes", items("ж", "╨╢")...)
	if strings.Count(string(b), "\xd0\xb6") != 2+2+1 {
		t.Errorf("%q", b)
	}
}

// items are some of these names.
func items(names ...string) []api.Item {
	var l []api.Item
	for _, n := range names {
		l = append(l, api.Item{Name: n, Dos: dawn, Data: []byte(n), How: 3})
	}
	return l
}

// P12.1: more than 1000 items are ErrMany, 1000 aren't.
func TestHowMany(t *testing.T) {
	for _, n := range []int{1, 2, 999, 1000} {
		makes(t, strconv.Itoa(n), right(n)...)
	}
	for _, n := range []int{1001, 1002, 1024, 2000, 65535, 65536, 66000} {
		refuses(t, strconv.Itoa(n), api.ErrMany, right(n)...)
	}
}

// P12.1, R2: of several errors the first one in the sentence is told, wherever the items stand.
func TestWhichError(t *testing.T) {
	for _, c := range wrongs() {
		for _, k := range []int{0, 500, 999, 1000} {
			l := right(1001)
			c.change(&l[k])
			refuses(t, c.what+", and too many", api.ErrMany, l...)
		}
		bad := right(1)[0]
		c.change(&bad)
		one := right(2)[1]
		for k := range 3 {
			refuses(t, c.what+", and twice", api.ErrArg, slices.Insert([]api.Item{one, one}, k, bad)...)
		}
		refuses(t, c.what+" twice", api.ErrArg, bad, bad)
		refuses(t, c.what+" twice, and twice", api.ErrArg, one, bad, one, bad)
	}
	refuses(t, "too many, all of one name", api.ErrMany, slices.Repeat(right(1), 1001)...)
	refuses(t, "too many, all of zeros", api.ErrMany, make([]api.Item, 1001)...)
	refuses(t, "1000 of zeros", api.ErrArg, make([]api.Item, 1000)...)
	refuses(t, "1000 of one name", api.ErrTwice, slices.Repeat(right(1), 1000)...)
	l := right(1001)
	l[0].Name, l[1000].Name = "", l[5].Name
	refuses(t, "all three", api.ErrMany, l...)
	refuses(t, "two of them", api.ErrArg, l[1000], l[0], l[5])
}
