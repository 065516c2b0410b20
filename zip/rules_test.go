package zip

import (
	"bytes"
	"fmt"
	"math"
	"math/rand"
	"slices"
	"strconv"
	"strings"
	"sync"
	"testing"

	"inquest/api"
)

// R1, R2: no call panics, whatever the items are, and beside an error there is nothing.
func TestAnyArguments(t *testing.T) {
	numbers := []int{0, 1, -1, 2, 3, 4, 40, 41, 1000, dawn - 1, dawn, dawn + 1, 1 << 31, 1<<32 - 1, 1 << 32, 1<<48 - 1, math.MaxInt, math.MinInt}
	x := rand.New(rand.NewSource(6))
	var many [4]int
	for range 30000 {
		l := make([]api.Item, 1+x.Intn(3))
		for k := range l {
			l[k] = api.Item{Name: strconv.Itoa(k), Dos: dawn, Data: []byte("any data"), How: x.Intn(4), Wide: x.Intn(2) == 0, Described: x.Intn(2) == 0}
			switch x.Intn(9) {
			case 0:
				l[k].Dos = numbers[x.Intn(len(numbers))]
			case 1:
				l[k].How = numbers[x.Intn(len(numbers))]
			case 2:
				name := make([]byte, x.Intn(4))
				x.Read(name)
				l[k].Name = string(name)
			case 3:
				l[k].Name = "0"
			}
		}
		asModel(t, "any items", l...)
		_, e := Make(l...)
		many[slices.Index([]api.Errno{api.OK, api.ErrArg, api.ErrTwice}, e)+1]++
	}
	if slices.Min(many[1:]) == 0 || many[0] != 0 {
		t.Errorf("so often each error: %v", many)
	}
}

// P12.1: May is held against Make: an item alone is refused just if May refuses it.
func TestMayIsMake(t *testing.T) {
	alone := func(what string, i api.Item) {
		b, e := Make(i)
		if May(i) != (e == api.OK) || e != api.OK && (e != api.ErrArg || b != nil) {
			t.Errorf("%s: May %v, Make %d bytes, %v", what, May(i), len(b), e)
		}
	}
	alone("zeros", api.Item{})
	for _, c := range wrongs() {
		i := right(1)[0]
		alone("right", i)
		c.change(&i)
		alone(c.what, i)
	}
	for _, i := range several() {
		alone(i.Name, i)
	}
	x := rand.New(rand.NewSource(7))
	var many [2]int
	for range 20000 {
		name := make([]byte, x.Intn(45))
		for k := range name {
			name[k] = byte(32 + x.Intn(97))
		}
		i := api.Item{Name: string(name), Dos: dawn + x.Intn(32)<<11, Data: name, How: x.Intn(6) - 1}
		alone(fmt.Sprintf("%+v", i), i)
		many[number(May(i))]++
	}
	if slices.Min(many[:]) == 0 {
		t.Errorf("so many may not be, and may: %v", many)
	}
}

// R3: nil and empty are one, handed in and answered.
func TestNilIsEmpty(t *testing.T) {
	for k := range 16 {
		i := api.Item{Name: "n", Dos: dawn, How: k % 4, Wide: k&4 != 0, Described: k&8 != 0}
		j := i
		j.Data = []byte{}
		one, two := makes(t, "nil", i), makes(t, "empty", j)
		if !bytes.Equal(one, two) || May(i) != May(j) {
			t.Errorf("way %d: %q, and %q", i.How, one, two)
		}
	}
	if b, e := Make(nil...); string(b) != nothing || e != api.OK {
		t.Errorf("%q, %v", b, e)
	}
}

// roomy is b, with room behind it that is filled, so that a write into it is seen.
func roomy(b []byte, x byte) []byte {
	whole := append(slices.Clone(b), bytes.Repeat([]byte{x}, 5000)...)
	return whole[:len(b)]
}

// fill writes over all of b, spare room included.
func fill(b []byte, x byte) {
	b = b[:cap(b)]
	for i := range b {
		b[i] = x
	}
}

// R4: what is handed in isn't changed, spare room included, whatever is answered, and whatever is done with that.
func TestArgumentsStay(t *testing.T) {
	for k, l := range [][]api.Item{several(), right(9), append(right(9), api.Item{}), append(right(9), right(1)...), {right(4)[0]}, {right(4)[1]}, {right(4)[2]}, {right(4)[3]}} {
		items := append(make([]api.Item, 0, 100), l...)
		items[:100][99].Name = "behind"
		var before [][]byte
		for k := range items {
			items[k].Data = roomy(items[k].Data, 0xaa)
			before = append(before, slices.Clone(items[k].Data[:cap(items[k].Data)]))
		}
		b, _ := Make(items...)
		fill(b, '!')
		for k, i := range items {
			May(i)
			want := l[k]
			if i.Name != want.Name || i.Dos != want.Dos || i.How != want.How || i.Wide != want.Wide || i.Described != want.Described || !bytes.Equal(i.Data, want.Data) || !bytes.Equal(i.Data[:cap(i.Data)], before[k]) {
				t.Errorf("%+v became %+v", want, i)
			}
		}
		for j, i := range items[:100][len(l):] {
			if (i.Name == "behind") != (len(l)+j == 99) || i.Dos != 0 || i.Data != nil {
				t.Errorf("%d: behind the items: %+v", k, i)
			}
		}
	}
}

// R4: what is handed in isn't kept: an archive stays as it is, whatever becomes of the items.
func TestArgumentsAreNotKept(t *testing.T) {
	for _, l := range [][]api.Item{several(), right(1), right(2)[1:], right(4)[3:]} {
		for k := range l {
			l[k].Data = slices.Clone(l[k].Data)
		}
		want := modelled(l)
		b, e := Make(l...)
		for k := range l {
			fill(l[k].Data, '?')
			l[k] = api.Item{}
		}
		if string(b) != want || e != api.OK {
			t.Errorf("%s, %v, wanted %s", short(string(b)), e, short(want))
		}
	}
}

// R4: an answer shares nothing with an earlier one, spare room included.
func TestAnswersAreNew(t *testing.T) {
	for _, l := range [][]api.Item{nil, several(), right(1), right(4), {{Name: "n", Dos: dawn}}} {
		want := modelled(l)
		one, _ := Make(l...)
		two, _ := Make(l...)
		fill(one, '!')
		three, _ := Make(l...)
		if string(two) != want || string(three) != want {
			t.Errorf("archives share memory: %s, %s", short(string(two)), short(string(three)))
		}
		fill(two, '?')
		fill(three, '.')
		if strings.Trim(string(one[:cap(one)]), "!") != "" || strings.Trim(string(two[:cap(two)]), "?") != "" {
			t.Error("archives share memory")
		}
	}
}

// R4: items may share their data, and data may lie within others.
func TestSharedData(t *testing.T) {
	data := []byte(strings.Repeat("shared data ", 30))
	var l []api.Item
	for k := range 24 {
		l = append(l, api.Item{Name: strconv.Itoa(k), Dos: dawn, Data: data[k : len(data)-3*k], How: k % 4, Described: k%3 == 0})
	}
	makes(t, "shared", l...)
	if string(data) != strings.Repeat("shared data ", 30) {
		t.Errorf("%q", data)
	}
}

// R5: what is answered hangs on the items alone: the same again, by several at once, whatever room there is behind, and whatever was made in between.
func TestSameAgain(t *testing.T) {
	l := several()
	want := modelled(l)
	var all sync.WaitGroup
	for k := range 8 {
		all.Add(1)
		go func() {
			defer all.Done()
			for i := range 10 {
				items := slices.Clone(l)
				for j := range items {
					items[j].Data = roomy(items[j].Data, byte(k*i))
				}
				if b, e := Make(items...); string(b) != want || e != api.OK {
					t.Errorf("%s, %v", short(string(b)), e)
				}
				refuses(t, "an item twice", api.ErrTwice, items[i], items[i])
				items[k].How = 4
				refuses(t, "a way that there isn't", api.ErrArg, items...)
				if May(items[k]) || !May(items[k+1]) {
					t.Error("May is another one")
				}
			}
		}()
	}
	all.Wait()
}
