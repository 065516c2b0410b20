package record

import (
	"math"
	"slices"
	"strconv"
	"strings"
	"testing"

	"inquest/api"
)

// P10.2: two heads are the same if all that they tell is.
func TestSame(t *testing.T) {
	changes := []func(h *api.Head){
		func(h *api.Head) {},
		func(h *api.Head) { h.Flags++ },
		func(h *api.Head) { h.Method++ },
		func(h *api.Head) { h.Dos++ },
		func(h *api.Head) { h.Crc++ },
		func(h *api.Head) { h.Csize++ },
		func(h *api.Head) { h.Size++ },
		func(h *api.Head) { h.At++ },
		func(h *api.Head) { h.Wide = !h.Wide },
		func(h *api.Head) { h.Name = append(h.Name, 0) },
		func(h *api.Head) { h.Name = append([]byte{'x'}, h.Name...) },
		func(h *api.Head) { h.Name = slices.Concat(h.Name, h.Name, []byte("y")) },
		func(h *api.Head) { h.Flags, h.Method = h.Flags+2, h.Method+3 },
		func(h *api.Head) { h.Csize, h.Size = h.Size+1, h.Csize+9 },
		func(h *api.Head) { h.Flags += 1 << 32 },
		func(h *api.Head) { h.Dos += 1 << 40 },
		func(h *api.Head) { h.At += 1 << 62 },
		func(h *api.Head) { h.Size -= 1 << 48 },
		func(h *api.Head) { h.Crc += 1 << 31 },
	}
	for i, c := range heads {
		for j, change := range changes {
			for k, other := range changes {
				a, b := named(c.h, string(c.h.Name)), named(c.h, string(c.h.Name))
				change(&a)
				other(&b)
				if Same(a, b) != (j == k) || Same(b, a) != (j == k) {
					t.Errorf("%d, %d, %d: Same(%v, %v) isn't %v", i, j, k, a, b, j == k)
				}
			}
		}
	}
}

// P10.2: names are the same by all of their bytes; nil and empty are one (R3).
func TestSameNames(t *testing.T) {
	texts := []string{"", "a", "b", "A", "ab", "ba", "a\x00", "\x00a", "\xff", strings.Repeat("n", 65535), strings.Repeat("n", 65534) + "m", "m" + strings.Repeat("n", 65534), strings.Repeat("n", 70000)}
	for i, a := range texts {
		for j, b := range texts {
			if Same(named(api.Head{}, a), named(api.Head{}, b)) != (i == j) {
				t.Errorf("%.20q, %.20q", a, b)
			}
		}
	}
	if !Same(api.Head{}, api.Head{Name: []byte{}}) || !Same(api.Head{Name: make([]byte, 0, 9)}, api.Head{}) || Same(api.Head{}, api.Head{Name: []byte{0}}) {
		t.Error("nil and empty")
	}
}

// R1, P10.2: also heads whose numbers may not be are the same, or not.
func TestSameOfAnyNumbers(t *testing.T) {
	for _, n := range extremes {
		for _, m := range extremes {
			for i, set := range []func(h *api.Head, n int){
				func(h *api.Head, n int) { h.Flags = n },
				func(h *api.Head, n int) { h.Method = n },
				func(h *api.Head, n int) { h.Dos = n },
				func(h *api.Head, n int) { h.Csize = n },
				func(h *api.Head, n int) { h.Size = n },
				func(h *api.Head, n int) { h.At = n },
			} {
				a, b := api.Head{Crc: math.MaxUint32}, api.Head{Crc: math.MaxUint32}
				set(&a, n)
				set(&b, m)
				if Same(a, b) != (n == m) {
					t.Error(strconv.Itoa(i), n, m)
				}
			}
		}
	}
}
