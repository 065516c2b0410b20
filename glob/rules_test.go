package glob

import (
	"math/rand"
	"strings"
	"sync"
	"testing"
	"unsafe"

	"inquest/api"
)

// P13.1, R1: a nil Glob matches nothing, and has no head.
func TestNilGlob(t *testing.T) {
	var g *Glob
	for _, n := range []string{"", "a", "/", "**", "\xff", strings.Repeat("x", 1001)} {
		if g.Match(n) {
			t.Errorf("%q matches nil", n)
		}
	}
	if head, all := g.Head(); head != "" || all {
		t.Errorf("head %q, %v", head, all)
	}
	failed, _ := New("[")
	if head, all := failed.Head(); failed.Match("[") || failed.Match("") || head != "" || all {
		t.Errorf("what New answers beside an error: head %q, %v", head, all)
	}
}

// R1: any bytes are taken, as patterns, as names, and to be quoted.
func TestAnyBytes(t *testing.T) {
	x := rand.New(rand.NewSource(1))
	kinds := []string{"*", "**", "?", "[", "[!", "]", "-", "\\", "/", "a", "b", "é", "😀", "\xff", "\x80", "\x00"}
	var many [3]int
	for range 100000 {
		pattern := ""
		for range x.Intn(12) {
			if x.Intn(10) == 0 {
				pattern += string([]byte{byte(x.Intn(256))})
			} else {
				pattern += kinds[x.Intn(len(kinds))]
			}
		}
		if x.Intn(50) == 0 {
			pattern += strings.Repeat("x", 95)
		}
		name := make([]byte, x.Intn(6))
		x.Read(name)
		asModel(t, pattern, "", string(name), "a", "ab/b", pattern, Quote(pattern))
		if _, e := New(pattern); e == api.ErrLong {
			many[2]++
		} else if e == api.ErrForm {
			many[1]++
		} else {
			many[0]++
		}
	}
	for k, n := range many {
		if n < 100 {
			t.Errorf("so few of kind %d: %d", k, n)
		}
	}
}

// R1: far longer texts than may be are taken, too.
func TestLongTexts(t *testing.T) {
	for _, r := range []string{"a", "*", "[", "\\", "\xff", "é", "/", "]"} {
		long := strings.Repeat(r, 1<<22)
		is(t, "too long", long, api.ErrLong)
		for _, p := range []string{"", "*", "**", "**a**", "[!b]**"} {
			if glob(t, p).Match(long) {
				t.Errorf("%d bytes match %q", len(long), p)
			}
		}
	}
}

// R2: beside an error there is no pattern, whatever was right ahead of the fault.
func TestNothingBesideErrors(t *testing.T) {
	for _, w := range wrong() {
		if g, e := New("abc*" + w.pattern); g != nil || e == api.OK {
			t.Errorf("%q: %v, %v", "abc*"+w.pattern, g, e)
		}
	}
	if g, e := New(strings.Repeat("a", 101)); g != nil || e != api.ErrLong {
		t.Errorf("%v, %v", g, e)
	}
}

// text is a text in memory of its own, and the bytes that it lies in, by which a test changes it.
func text(s string) (string, []byte) {
	b := []byte(s)
	return unsafe.String(unsafe.SliceData(b), len(b)), b
}

// spoil changes all of the bytes.
func spoil(b []byte) {
	for i := range b {
		b[i] = '#'
	}
}

// R4: what is handed in stays as it was.
func TestArgumentsStay(t *testing.T) {
	for _, s := range some {
		pattern, bytes := text(s.pattern)
		g, _ := New(pattern)
		g.Head()
		Quote(pattern)
		for _, n := range append(s.yes, s.noes...) {
			name, nameBytes := text(n)
			g.Match(name)
			Quote(name)
			if string(nameBytes) != n {
				t.Errorf("name %q became %q", n, nameBytes)
			}
		}
		if string(bytes) != s.pattern {
			t.Errorf("pattern %q became %q", s.pattern, bytes)
		}
	}
}

// R4: neither the pattern nor a name is kept: when the memory that they lie in changes later, nothing else does.
func TestArgumentsAreNotKept(t *testing.T) {
	for _, s := range some {
		if s.pattern == "" {
			continue
		}
		pattern, bytes := text(s.pattern)
		g, _ := New(pattern)
		want, wants := glob(t, s.pattern).Head()
		spoil(bytes)
		if head, all := g.Head(); head != want || all != wants {
			t.Errorf("%q, changed later: head %q, %v, wanted %q, %v", s.pattern, head, all, want, wants)
		}
		for _, n := range s.yes {
			name, nameBytes := text(n)
			first := g.Match(name)
			spoil(nameBytes)
			if !first || !g.Match(n) {
				t.Errorf("%q, changed later: %q doesn't match", s.pattern, n)
			}
		}
		for _, n := range s.noes {
			if g.Match(n) {
				t.Errorf("%q, changed later: %q matches", s.pattern, n)
			}
		}
	}
}

// shares tells whether two texts have memory in common.
func shares(a, b string) bool {
	if a == "" || b == "" {
		return false
	}
	from, other := uintptr(unsafe.Pointer(unsafe.StringData(a))), uintptr(unsafe.Pointer(unsafe.StringData(b)))
	return from < other+uintptr(len(b)) && other < from+uintptr(len(a))
}

// R4: what is answered lies in memory of its own: it shares none with what was handed in, or with an answer ahead.
func TestAnswersAreNew(t *testing.T) {
	for _, q := range quoted {
		first, second := Quote(q.name), Quote(q.name)
		if shares(first, q.name) || shares(second, q.name) || shares(first, second) {
			t.Errorf("Quote(%q) shares memory", q.name)
		}
	}
	for _, h := range heads {
		g := glob(t, h.pattern)
		first, _ := g.Head()
		second, _ := g.Head()
		third, _ := glob(t, h.pattern).Head()
		for _, other := range []string{h.pattern, second, third} {
			if shares(first, other) {
				t.Errorf("%q: the head %q shares memory", h.pattern, first)
			}
		}
	}
	if x := "abc"; !shares(x, x[1:]) || !shares(x[1:], x) || shares(x[:1], x[1:]) || shares(x[1:], x[:1]) {
		t.Error("shares doesn't tell what it should")
	}
}

// R5: Match and Head hang on the pattern and the name alone: the same again, in any order, whatever was asked in between, and of another Glob of the same pattern.
func TestSameAgain(t *testing.T) {
	x := rand.New(rand.NewSource(5))
	globs := make([][2]*Glob, len(some))
	for i, s := range some {
		globs[i] = [2]*Glob{glob(t, s.pattern), glob(t, s.pattern)}
	}
	for range 100000 {
		i := x.Intn(len(some))
		s, g := some[i], globs[i][x.Intn(2)]
		if len(s.yes) > 0 {
			if n := s.yes[x.Intn(len(s.yes))]; !g.Match(n) {
				t.Errorf("%q doesn't match %q", n, s.pattern)
			}
		}
		if n := s.noes[x.Intn(len(s.noes))]; g.Match(n) {
			t.Errorf("%q matches %q", n, s.pattern)
		}
		g.Head()
	}
}

// R5: several may ask one Glob at once.
func TestAtOnce(t *testing.T) {
	globs := make([]*Glob, len(some))
	for i, s := range some {
		globs[i] = glob(t, s.pattern)
	}
	var all sync.WaitGroup
	for k := range 8 {
		all.Go(func() {
			for i := range some {
				s, g := some[(i+k)%len(some)], globs[(i+k)%len(some)]
				for _, n := range s.yes {
					if !g.Match(n) {
						t.Errorf("%q doesn't match %q", n, s.pattern)
					}
				}
				for _, n := range s.noes {
					if g.Match(n) {
						t.Errorf("%q matches %q", n, s.pattern)
					}
				}
				again, e := New(s.pattern)
				head, whole := g.Head()
				if h, w := again.Head(); e != api.OK || h != head || w != whole || Quote(head) != Quote(h) {
					t.Errorf("%q: %q, %v, %q, %v, %v", s.pattern, head, whole, h, w, e)
				}
				New("[" + s.pattern)
			}
		})
	}
	all.Wait()
}
