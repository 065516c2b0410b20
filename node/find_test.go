package node

import (
	"math/rand"
	"strings"
	"testing"

	"inquest/api"
)

// place is what Find answers, by the chapter's words: each key is held against the one that is asked for.
func place(n api.Node, key string) (int, bool) {
	at, is := 0, false
	for _, c := range n.Cells {
		if string(c.Key) == key {
			is = true
		}
		if string(c.Key) < key || !n.Leaf && string(c.Key) == key {
			at++
		}
	}
	return at, is
}

// finds asks that the key is found where the chapter's words tell.
func finds(t *testing.T, n api.Node, key string) {
	t.Helper()
	want, wanted := place(n, key)
	if at, is := Find(n, []byte(key)); at != want || is != wanted {
		t.Errorf("Find(%s, %q): %d, %v, wanted %d, %v", brief(n), key, at, is, want, wanted)
	}
}

// P18.2: known places: below, between, of and above all cells.
func TestFind(t *testing.T) {
	leaf := leafOf(near("b", "v"), far("bb", 5, 300), near("d", ""))
	inner := innerOf(5, "b", "bb", "d")
	for _, c := range []struct {
		key         string
		leaf, inner int
		is          bool
	}{
		{"", 0, 0, false},
		{"\x00", 0, 0, false},
		{"a", 0, 0, false},
		{"azzz", 0, 0, false},
		{"b", 0, 1, true},
		{"b\x00", 1, 1, false},
		{"ba", 1, 1, false},
		{"bb", 1, 2, true},
		{"bb\x00", 2, 2, false},
		{"bc", 2, 2, false},
		{"c", 2, 2, false},
		{"d", 2, 3, true},
		{"d\x00", 3, 3, false},
		{"e", 3, 3, false},
		{"B", 0, 0, false},
		{"\x80", 3, 3, false},
		{"\xff\xff", 3, 3, false},
		{strings.Repeat("b", 120), 2, 2, false},
		{strings.Repeat("b", 121), 2, 2, false},
		{strings.Repeat("z", 1000), 3, 3, false},
	} {
		if at, is := Find(leaf, []byte(c.key)); at != c.leaf || is != c.is {
			t.Errorf("of a leaf, %q: %d, %v", c.key, at, is)
		}
		if at, is := Find(inner, []byte(c.key)); at != c.inner || is != c.is {
			t.Errorf("of an inner node, %q: %d, %v", c.key, at, is)
		}
	}
}

// P18.2: nodes without cells have nothing, wherever.
func TestFindNothing(t *testing.T) {
	for _, n := range []api.Node{leafOf(), innerOf(5), {}, {Leaf: true, Cells: []api.Cell{}}} {
		for _, key := range []string{"", "\x00", "k", "\xff", strings.Repeat("k", 120), strings.Repeat("k", 500)} {
			if at, is := Find(n, []byte(key)); at != 0 || is {
				t.Errorf("Find(%s, %q): %d, %v", brief(n), key, at, is)
			}
		}
		if at, is := Find(n, nil); at != 0 || is {
			t.Errorf("Find(%s, nil): %d, %v", brief(n), at, is)
		}
	}
}

// P18.2: in nodes of any number of cells: each key, what is just below and just above it.
func TestFindEach(t *testing.T) {
	for many := range 127 {
		leaf, inner := leafOf(), innerOf(5)
		for i := range many {
			k := string([]byte{byte(2*i + 1), 'k'})
			leaf.Cells = append(leaf.Cells, near(k, "v"))
			inner.Cells = append(inner.Cells, bare(k))
			inner.Kids = append(inner.Kids, 6+i)
		}
		for i := range many {
			k := string(leaf.Cells[i].Key)
			for _, c := range []struct {
				key         string
				leaf, inner int
				is          bool
			}{{k, i, i + 1, true}, {k + "\x00", i + 1, i + 1, false}, {k[:1], i, i, false}, {k[:1] + "j", i, i, false}, {k[:1] + "l", i + 1, i + 1, false}} {
				if at, is := Find(leaf, []byte(c.key)); at != c.leaf || is != c.is {
					t.Errorf("of a leaf of %d, %q: %d, %v", many, c.key, at, is)
				}
				if at, is := Find(inner, []byte(c.key)); at != c.inner || is != c.is {
					t.Errorf("of an inner node of %d, %q: %d, %v", many, c.key, at, is)
				}
			}
		}
		finds(t, leaf, "")
		finds(t, inner, "")
		finds(t, leaf, "\xff\xff")
		finds(t, inner, "\xff\xff")
	}
}

// P18.2: the child that an inner node's key tells: all keys of one byte, in the child in which they belong.
func TestFindChild(t *testing.T) {
	n := innerOf(100, "\x20", "\x40", "\x80", "\xc0")
	for v := range 256 {
		want := 0
		for _, bound := range []int{0x20, 0x40, 0x80, 0xc0} {
			if v >= bound {
				want++
			}
		}
		at, is := Find(n, []byte{byte(v)})
		if at != want || is != (v == 0x20 || v == 0x40 || v == 0x80 || v == 0xc0) {
			t.Errorf("%d: %d, %v", v, at, is)
		}
	}
}

// P18.2: drawn nodes, and keys that are there, nearly there, or drawn.
func TestFindDrawn(t *testing.T) {
	x := rand.New(rand.NewSource(5))
	there := 0
	for range 20000 {
		n := drawn(x)
		keys := []string{"", string(drawnBytes(x, x.Intn(130)))}
		if len(n.Cells) > 0 {
			k := string(n.Cells[x.Intn(len(n.Cells))].Key)
			last := k[:len(k)-1] + string([]byte{k[len(k)-1] + byte(x.Intn(3)) - 1})
			keys = append(keys, k, k[:x.Intn(len(k))], k+"\x00", k+"\xff", last)
		}
		for _, k := range keys {
			finds(t, n, k)
			if _, is := place(n, k); is {
				there++
			}
		}
	}
	if there < 10000 {
		t.Errorf("only %d were there", there)
	}
}

// R1, P18.2: also of nodes that aren't right, whose keys stand in any order, one several times, or an empty one.
func TestFindNotRight(t *testing.T) {
	x := rand.New(rand.NewSource(6))
	words := []string{"", "\x00", "a", "aa", "b", "ba", "\xff", strings.Repeat("k", 121), strings.Repeat("k", 300)}
	for range 20000 {
		n := api.Node{Leaf: x.Intn(2) == 0, Kids: make([]int, x.Intn(4))}
		for range x.Intn(8) {
			n.Cells = append(n.Cells, api.Cell{Key: []byte(words[x.Intn(len(words))]), Over: x.Intn(3) - 1, Long: x.Intn(300)})
		}
		for _, k := range words {
			finds(t, n, k)
		}
	}
}
