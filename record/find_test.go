package record

import (
	"strconv"
	"strings"
	"testing"

	"inquest/api"
)

// P10.3: tails are found as they were put, at their bounds, at any place, whatever stands ahead, and with a comment behind.
func TestTailsArePutAndFound(t *testing.T) {
	for _, wide := range []bool{false, true} {
		many, most := 1<<16-2, 1<<32-2
		if wide {
			many, most = top48, top48
		}
		for i, x := range []api.Tail{{}, {Many: 1}, {Long: 1}, {At: 1}, {Many: 3, Long: 100, At: 5}, {Many: many}, {Long: most}, {At: most}, {Many: many, Long: most, At: most},
			{Many: 0x0102, Long: 0x03040506, At: 0x0708090a}, {Many: min(many, 1<<40), Long: min(most, 1<<41), At: min(most, 1<<42)}, {Many: many - 1, Long: most - 1, At: most - 1}} {
			x.Wide = wide
			for _, ahead := range []string{"", "abc", strings.Repeat("x", 19), strings.Repeat("y", 20), endOf(api.Tail{Many: 9}, 0), endOf(api.Tail{Many: 9, Wide: true}, 0), "PK\x05\x06", strings.Repeat("z", 70000)} {
				b, e := End(x, len(ahead))
				if e != api.OK {
					t.Fatalf("End(%v): %v", x, e)
				}
				what := strconv.Itoa(i) + ", " + strconv.Itoa(len(ahead)) + " bytes ahead"
				isFound(t, what, ahead+string(b), x)
				for _, comment := range []string{"c", "PK\x05\x06", strings.Repeat("long ", 13107)} {
					isFound(t, what+", with a comment", ahead+with(string(b), -2, join(n2(len(comment))))+comment, x)
				}
			}
		}
	}
}

// P10.2: there is none, if nothing of 22 bytes begins with the mark, or its comment doesn't reach just to the end.
func TestNoTail(t *testing.T) {
	tail := endOf(api.Tail{Many: 3, Long: 4, At: 5}, 0)
	for n := range tail {
		isLost(t, "cut at its end", tail[:n])
		isLost(t, "cut at its beginning", tail[n+1:])
		isLost(t, "in the middle of others", "ahead"+tail+strings.Repeat("\x00", n+1))
	}
	for place := range 4 {
		for x := range 256 {
			if w := with(tail, place, string([]byte{byte(x)})); w != tail {
				isLost(t, "another mark", w)
				isLost(t, "another mark", "PK"+w)
			}
		}
	}
	for _, c := range []struct{ told, is int }{{0, 1}, {1, 0}, {1, 2}, {2, 1}, {255, 256}, {256, 255}, {256, 1}, {1, 256}, {65535, 65534}, {65534, 65535}, {65535, 0}, {0, 65535}, {65535, 65536}, {0, 65536}, {0, 65537}} {
		isLost(t, "told "+strconv.Itoa(c.told)+", is "+strconv.Itoa(c.is), "ahead"+with(tail, -2, join(n2(c.told)))+strings.Repeat("c", c.is))
	}
	for _, mark := range []string{"PK\x01\x02", "PK\x03\x04", "PK\x06\x06", "PK\x06\x07", "PK\x07\x08"} {
		isLost(t, "another's mark", with(tail, 0, mark))
	}
	for _, b := range []string{"", "PK\x05\x06", strings.Repeat("\x00", 22), strings.Repeat("PK\x05\x06", 20), strings.Repeat("x", 1<<20)} {
		isLost(t, "no tail", b)
	}
}

// P10.2: a tail is found down to just 65557 bytes from the end, which is as far as a comment reaches, and none that is farther.
func TestFarthestTail(t *testing.T) {
	x := api.Tail{Many: 3, Long: 4, At: 5}
	tail := endOf(x, 0)
	for _, n := range []int{0, 1, 255, 256, 32768, 65533, 65534, 65535} {
		b := with(tail, -2, join(n2(n))) + strings.Repeat("c", n)
		for _, ahead := range []string{"", "a", strings.Repeat("a", 100), strings.Repeat("a", 1<<17)} {
			isFound(t, strconv.Itoa(n), ahead+b, x)
			isLost(t, strconv.Itoa(n)+", and one more", ahead+b+"c")
			isLost(t, strconv.Itoa(n)+", and as many as go round", ahead+b+strings.Repeat("c", 65536))
		}
	}
}

// P10.2: of several tails that reach to the end the last one counts; one that doesn't isn't one, wherever it stands.
func TestLastOfSeveral(t *testing.T) {
	one, two, three := api.Tail{Many: 1, Long: 2, At: 3}, api.Tail{Many: 4, Long: 5, At: 6}, api.Tail{Many: 7, Long: 8, At: 9}
	first, second, third := endOf(one, 0), endOf(two, 0), endOf(three, 0)
	inside := func(tail, comment string) string { return with(tail, -2, join(n2(len(comment)))) + comment }
	isFound(t, "one behind the other", first+second, two)
	isFound(t, "three", first+second+third, three)
	isFound(t, "the comment is a tail", inside(first, second), two)
	isFound(t, "the comment ends with a tail", inside(first, "comment "+second), two)
	isFound(t, "the comment has a tail with a comment", inside(first, "comment "+inside(second, "its own")), two)
	isFound(t, "three in one another", inside(first, inside(second, third)), three)
	isFound(t, "the comment has a tail that doesn't reach the end", inside(first, second+"more"), one)
	isFound(t, "the comment has a tail that goes beyond the end", inside(first, with(second, -2, "\x01\x00")), one)
	isFound(t, "the comment has a tail that is cut short", inside(first, second[:21]), one)
	isFound(t, "the middle one reaches the end", inside(first, inside(second, third+"more")), two)
	isFound(t, "as many as there may be", inside(first, strings.Repeat("x", 65513)+second), two)
	isFound(t, "marks close together", "PK\x05\x06PK\x05\x06PK\x05"+second, two)
	isFound(t, "marks in the numbers", "PK\x05\x06"+end{first: 1, many: 1, long: 0x06054b50, at: 0x06054b50}.bytes(), api.Tail{Many: 1, Long: 0x06054b50, At: 0x06054b50})
	wrong := with(second, 10, "\xff\xff")
	isLost(t, "the last one isn't right", first+wrong)
	isLost(t, "the last one isn't right, in a comment", inside(first, wrong))
}

// P10.2: of two numbers of entries the second one counts, and disks are nothing.
func TestWhatCountsInTails(t *testing.T) {
	want := api.Tail{Many: 3, Long: 4, At: 5}
	for i, x := range []end{
		{first: 9, many: 3, long: 4, at: 5},
		{first: 0, many: 3, long: 4, at: 5},
		{first: 0xffff, many: 3, long: 4, at: 5},
		{disk: 1, heads: 2, first: 3, many: 3, long: 4, at: 5},
		{disk: 0xffff, heads: 0xffff, first: 3, many: 3, long: 4, at: 5},
		{disk: 7, heads: 8, first: 0xfffe, many: 3, long: 4, at: 5, comment: "ten"},
	} {
		isFound(t, strconv.Itoa(i), x.bytes(), want)
		isFound(t, strconv.Itoa(i)+" with a wide tail ahead", wideEnd{first: 8, many: 8, size: 8, at: 8}.bytes()+x.bytes(), want)
	}
}

// wholeWide is a wide tail behind 7 bytes, of which no two numbers are alike.
var wholeWide = struct {
	ahead string
	parts wideEnd
	want  api.Tail
}{"7 ahead", wideEnd{long: 44, made: 45, version: 45, first: 5, many: 3, size: 0x060504030201, at: 0x0a09080706, where: 7, disks: 1},
	api.Tail{Many: 3, Long: 0x060504030201, At: 0x0a09080706, Wide: true}}

// P10.2: one number that is all ones is enough for the wide tail to count; that is why it must be there.
func TestEachOnes(t *testing.T) {
	w := wholeWide
	w.parts.first, w.parts.many, w.parts.size, w.parts.at = 3, 3, 100, 50
	for which := range 8 {
		x := end{first: 3, many: 3, long: 100, at: 50}
		want := api.Tail{Many: 3, Long: 100, At: 50, Wide: which != 0}
		for i, n := range []*uint64{&x.many, &x.long, &x.at} {
			if which>>i&1 != 0 {
				*n = []uint64{ones2, ones4, ones4}[i]
			}
		}
		isFound(t, strconv.Itoa(which), w.ahead+w.parts.bytes()+x.bytes(), want)
		x.comment = "comment"
		isFound(t, strconv.Itoa(which), w.ahead+w.parts.bytes()+x.bytes(), want)
		if which != 0 {
			isLost(t, strconv.Itoa(which), x.bytes())
			isLost(t, strconv.Itoa(which), w.ahead+w.ahead+w.ahead+x.bytes())
		}
	}
}

// P10.2: marks, versions and disks of a wide tail are nothing, of its numbers of entries the second one counts, and where it tells to have begun is where it counts.
func TestWhatCountsInWideTails(t *testing.T) {
	allOnes := end{first: ones2, many: ones2, long: ones4, at: ones4}.bytes()
	for i, change := range []func(w *wideEnd){
		func(w *wideEnd) {},
		func(w *wideEnd) { w.first = 0 },
		func(w *wideEnd) { w.first = top48 },
		func(w *wideEnd) { w.made, w.version = 0, 0 },
		func(w *wideEnd) { w.made, w.version = 0xffff, 0xffff },
		func(w *wideEnd) { w.made, w.version = 0x032d, 46 },
		func(w *wideEnd) { w.disk, w.heads = 0xffffffff, 0xffffffff },
		func(w *wideEnd) { w.disk, w.heads = 1, 2 },
		func(w *wideEnd) { w.tailDisk, w.disks = 0, 0 },
		func(w *wideEnd) { w.tailDisk, w.disks = 0xffffffff, 0xffffffff },
		func(w *wideEnd) { w.behind = strings.Repeat("between", 100) },
		func(w *wideEnd) { w.behind, w.long = "more of it", 54 },
	} {
		w := wholeWide
		change(&w.parts)
		isFound(t, strconv.Itoa(i), w.ahead+w.parts.bytes()+allOnes, w.want)
		w.parts.where = 0
		isFound(t, strconv.Itoa(i)+" at 0", w.parts.bytes()+allOnes, w.want)
		w.parts.where = 70000
		isFound(t, strconv.Itoa(i)+" far from 0", strings.Repeat("a", 70000)+w.parts.bytes()+allOnes, w.want)
	}
	decoy := wideEnd{long: 44, first: 1, many: 1, size: 1, at: 1, where: 99, disks: 1}
	w := wholeWide
	w.parts.where = 96
	isFound(t, "another one ahead", decoy.bytes()+strings.Repeat("-", 20)+w.parts.bytes()+allOnes, w.want)
	w.parts.where, w.parts.behind = 0, decoy.bytes()[:56]
	isFound(t, "another one between", w.parts.bytes()+allOnes, w.want)
}

// P10.2: the 20 bytes just ahead of the tail must be the wide tail's second part.
func TestNoSecondPart(t *testing.T) {
	w := wholeWide
	allOnes := end{first: ones2, many: ones2, long: ones4, at: ones4}.bytes()
	parts := w.ahead + w.parts.bytes()
	isFound(t, "as it is", parts+allOnes, w.want)
	for place := range 4 {
		for x := range 256 {
			if b := with(parts, -20+place, string([]byte{byte(x)})); b != parts {
				isLost(t, "another mark", b+allOnes)
			}
		}
	}
	for _, between := range []string{"-", strings.Repeat("-", 20), parts[len(parts)-20:][:19]} {
		isLost(t, "something between", parts+between+allOnes)
	}
	for n := 1; n <= 20; n++ {
		isLost(t, "it is cut at its end", parts[:len(parts)-n]+allOnes)
	}
	second := parts[len(parts)-20:]
	for n := range 21 {
		isLost(t, "fewer than 20 bytes, or nothing ahead of them", second[n:]+allOnes)
	}
	isLost(t, "it is ahead of the first part", w.ahead+second+parts[7:63]+allOnes)
	isLost(t, "alone", allOnes)
}

// P10.2: what the second part tells must be the first part: 56 bytes that begin with its mark.
func TestNoFirstPart(t *testing.T) {
	w := wholeWide
	allOnes := end{first: ones2, many: ones2, long: ones4, at: ones4}.bytes()
	parts := w.ahead + w.parts.bytes()
	for place := range 4 {
		for x := range 256 {
			if b := with(parts, 7+place, string([]byte{byte(x)})); b != parts {
				isLost(t, "another mark", b+allOnes)
			}
		}
	}
	whole := len(parts) + len(allOnes)
	for _, where := range []uint64{0, 1, 6, 8, 55, 56, 63, 64, uint64(whole) - 56, uint64(whole) - 22, uint64(whole) - 4, uint64(whole) - 3, uint64(whole), uint64(whole) + 1,
		7 + 1<<16, 7 + 1<<32, 7 + 1<<48, 7 + 1<<56, 7 + 1<<63, 1<<31 - 1, ones4, top48, 1<<63 - 1, 1 << 63, 1<<64 - 1, 1<<64 - 4, 1<<64 - 7} {
		w.parts.where = where
		isLost(t, "where is "+strconv.FormatUint(where, 10), w.ahead+w.parts.bytes()+allOnes)
	}
	for _, comment := range []string{"PK\x06\x06", "PK\x06\x06" + strings.Repeat("\x00", 51)} {
		w.parts.where = uint64(whole)
		tail := end{first: ones2, many: ones2, long: ones4, at: ones4, comment: comment}.bytes()
		isLost(t, "fewer than 56 bytes up to the end", w.ahead+w.parts.bytes()+tail)
	}
}

// P10.2: no number of the wide tail that counts is above 2^48 - 1.
func TestWideTailsNumbers(t *testing.T) {
	allOnes := end{first: ones2, many: ones2, long: ones4, at: ones4}.bytes()
	for place := range 3 {
		for _, n := range []uint64{0, 1, ones2, ones4, ones4 + 1, top48 - 1, top48, top48 + 1, 1<<48 + 3, 1 << 56, 1<<63 - 1, 1 << 63, 1<<63 + 3, 1<<64 - 1} {
			w := wholeWide
			*[]*uint64{&w.parts.many, &w.parts.size, &w.parts.at}[place] = n
			what := strconv.Itoa(place) + " " + strconv.FormatUint(n, 16)
			b := w.ahead + w.parts.bytes() + allOnes
			if n > top48 {
				isLost(t, what, b)
				continue
			}
			*[]*int{&w.want.Many, &w.want.Long, &w.want.At}[place] = int(n)
			isFound(t, what, b, w.want)
		}
	}
}
