package dos

import (
	"cmp"
	"testing"

	"inquest/api"
)

// some are moments with their numbers, worked out by hand from the chapter, and what they become when they are got again.
var some = []struct {
	m    Moment
	n    int
	even Moment
	text string
}{
	{Moment{2024, 2, 29, 0, 0, 0}, 1482489856, Moment{2024, 2, 29, 0, 0, 0}, "2024-02-29"},
	{Moment{2024, 2, 29, 12, 30, 58}, 1482489856 + 24576 + 960 + 29, Moment{2024, 2, 29, 12, 30, 58}, "2024-02-29 12:30:58"},
	{Moment{2024, 2, 29, 12, 30, 59}, 1482489856 + 24576 + 960 + 29, Moment{2024, 2, 29, 12, 30, 58}, "2024-02-29 12:30:58"},
	{Moment{1980, 1, 1, 0, 0, 0}, 33 * 65536, Moment{1980, 1, 1, 0, 0, 0}, "1980-01-01"},
	{Moment{1980, 1, 1, 0, 0, 1}, 33 * 65536, Moment{1980, 1, 1, 0, 0, 0}, "1980-01-01"},
	{Moment{1980, 1, 1, 0, 0, 2}, 33*65536 + 1, Moment{1980, 1, 1, 0, 0, 2}, "1980-01-01 00:00:02"},
	{Moment{1980, 1, 1, 0, 0, 3}, 33*65536 + 1, Moment{1980, 1, 1, 0, 0, 2}, "1980-01-01 00:00:02"},
	{Moment{1980, 1, 1, 0, 1, 0}, 33*65536 + 32, Moment{1980, 1, 1, 0, 1, 0}, "1980-01-01 00:01:00"},
	{Moment{1980, 1, 1, 1, 0, 0}, 33*65536 + 2048, Moment{1980, 1, 1, 1, 0, 0}, "1980-01-01 01:00:00"},
	{Moment{1980, 1, 31, 23, 0, 0}, 63*65536 + 47104, Moment{1980, 1, 31, 23, 0, 0}, "1980-01-31 23:00:00"},
	{Moment{1980, 12, 1, 0, 59, 0}, 385*65536 + 1888, Moment{1980, 12, 1, 0, 59, 0}, "1980-12-01 00:59:00"},
	{Moment{1981, 1, 1, 0, 0, 59}, 545*65536 + 29, Moment{1981, 1, 1, 0, 0, 58}, "1981-01-01 00:00:58"},
	{Moment{1999, 12, 31, 23, 59, 59}, (9728+384+31)*65536 + 47104 + 1888 + 29, Moment{1999, 12, 31, 23, 59, 58}, "1999-12-31 23:59:58"},
	{Moment{2000, 2, 29, 9, 8, 7}, (10240+64+29)*65536 + 18432 + 256 + 3, Moment{2000, 2, 29, 9, 8, 6}, "2000-02-29 09:08:06"},
	{Moment{2107, 12, 31, 23, 59, 59}, (65024+384+31)*65536 + 47104 + 1888 + 29, Moment{2107, 12, 31, 23, 59, 58}, "2107-12-31 23:59:58"},
}

// P8.1: a moment's number, and the moment of a number, its second even.
func TestPutAndGet(t *testing.T) {
	for _, s := range some {
		if !Right(s.m) {
			t.Errorf("%v isn't right", s.m)
		}
		if n, e := Put(s.m); n != s.n || e != api.OK {
			t.Errorf("Put(%v): %d, %v, wanted %d", s.m, n, e, s.n)
		}
		if m, e := Get(s.n); m != s.even || e != api.OK {
			t.Errorf("Get(%d): %v, %v, wanted %v", s.n, m, e, s.even)
		}
		if n, e := Put(s.even); n != s.n || e != api.OK {
			t.Errorf("Put(%v): %d, %v, wanted %d", s.even, n, e, s.n)
		}
	}
}

// P8.1: a year, a month, an hour, a minute and a second have their first and their last, and none beside these is right.
func TestBounds(t *testing.T) {
	base := Moment{2024, 5, 15, 12, 30, 30}
	for _, b := range []struct {
		what        string
		with        func(Moment, int) Moment
		first, last int
	}{
		{"year", func(m Moment, n int) Moment { m.Year = n; return m }, 1980, 2107},
		{"month", func(m Moment, n int) Moment { m.Month = n; return m }, 1, 12},
		{"day", func(m Moment, n int) Moment { m.Day = n; return m }, 1, 31},
		{"hour", func(m Moment, n int) Moment { m.Hour = n; return m }, 0, 23},
		{"minute", func(m Moment, n int) Moment { m.Minute = n; return m }, 0, 59},
		{"second", func(m Moment, n int) Moment { m.Second = n; return m }, 0, 59},
	} {
		for n := b.first - 3000; n <= b.last+3000; n++ {
			m := b.with(base, n)
			is, want := n >= b.first && n <= b.last, api.ErrArg
			if is {
				want = api.OK
			}
			if got := Right(m); got != is {
				t.Errorf("%s %d: right %v", b.what, n, got)
			}
			if got, e := Put(m); e != want || !is && got != 0 {
				t.Errorf("%s %d: %d, %v", b.what, n, got, e)
			}
		}
	}
}

// P8.1: each month's last day is right, and the day behind it isn't, in years of every kind.
func TestLastDays(t *testing.T) {
	days := [...]int{31, 28, 31, 30, 31, 30, 31, 31, 30, 31, 30, 31}
	leap := map[int]bool{1980: true, 1984: true, 1996: true, 2000: true, 2004: true, 2024: true, 2096: true, 2104: true}
	for _, year := range []int{1980, 1981, 1982, 1983, 1984, 1990, 1996, 1999, 2000, 2001, 2004, 2023, 2024, 2025, 2096, 2099, 2100, 2101, 2104, 2107} {
		for i, last := range days {
			if i == 1 && leap[year] {
				last = 29
			}
			for day := -1; day <= 33; day++ {
				m := Moment{Year: year, Month: i + 1, Day: day}
				is := day >= 1 && day <= last
				if got := Right(m); got != is {
					t.Errorf("%v: right %v", m, got)
				}
				if day < 0 || day > 31 {
					continue
				}
				n := ((year-1980)*512 + (i+1)*32 + day) * 65536
				got, e := Get(n)
				if is && (got != m || e != api.OK) || !is && (got != Moment{} || e != api.ErrArg) {
					t.Errorf("Get of %v: %v, %v", m, got, e)
				}
			}
		}
	}
}

// P8.1, P8.2: each day of all years, and each number that could be a day's and isn't, with several times.
func TestAllDays(t *testing.T) {
	for day := range 65536 {
		for _, time := range []int{0, 1, 12<<11 | 30<<5 | 15, 23<<11 | 59<<5 | 29, 30, 60 << 5, 24 << 11} {
			asModel(t, day<<16|time)
		}
	}
}

// P8.1, P8.2: each time of a day, and each number that could be a time's and isn't, on several days.
func TestAllTimes(t *testing.T) {
	for time := range 65536 {
		for _, day := range []int{33, 44<<9 | 2<<5 | 29, 43<<9 | 2<<5 | 29, 127<<9 | 12<<5 | 31, 0} {
			asModel(t, day<<16|time)
		}
	}
}

// P8.1: numbers below 0 and above all that may be are no moment's, also where the bits that a moment has would be right.
func TestNumbersOutside(t *testing.T) {
	for _, s := range some {
		for k := 32; k < 63; k++ {
			for _, n := range []int{s.n + 1<<k, s.n - 1<<k, s.n | -1<<k, -s.n, -s.n - 1, s.n + (3 << k)} {
				if m, e := Get(n); m != (Moment{}) || e != api.ErrArg {
					t.Errorf("Get(%d): %v, %v", n, m, e)
				}
				if s, e := Text(n); s != "" || e != api.ErrArg {
					t.Errorf("Text(%d): %q, %v", n, s, e)
				}
			}
		}
	}
	last, _ := Put(Moment{2107, 12, 31, 23, 59, 59})
	first, _ := Put(Moment{1980, 1, 1, 0, 0, 0})
	for k := range 100000 {
		for _, n := range []int{last + 1 + k, first - 1 - k, -1 - k, 1<<32 + k} {
			if m, e := Get(n); m != (Moment{}) || e != api.ErrArg {
				t.Errorf("Get(%d): %v, %v", n, m, e)
			}
		}
	}
}

// P8.3: numbers rise as moments do: from each time to the next two seconds behind, from each day's last time to the next day's first.
func TestRising(t *testing.T) {
	end := calendar(Moment{2107, 12, 31, 0, 0, 0})
	before := -1
	rises := func(m Moment) {
		t.Helper()
		n, e := Put(m)
		if e != api.OK || n <= before {
			t.Errorf("Put(%v): %d, %v, wanted more than %d", m, n, e, before)
		}
		before = n
	}
	for day := calendar(Moment{1980, 1, 1, 0, 0, 0}); !day.After(end); day = day.AddDate(0, 0, 1) {
		m := moment(day)
		every := 20000
		if m.Day == 29 && m.Month == 2 {
			every = 2
		}
		for s := 0; s < 86398; s += every {
			rises(Moment{m.Year, m.Month, m.Day, s / 3600, s / 60 % 60, s % 60})
		}
		rises(Moment{m.Year, m.Month, m.Day, 23, 59, 59})
	}
}

// P8.3: of any two moments the earlier one has the smaller number, of which parts ever they differ.
func TestOrder(t *testing.T) {
	var l []Moment
	for _, year := range []int{1980, 1981, 2043, 2044, 2107} {
		for _, month := range []int{1, 2, 7, 8, 12} {
			for _, day := range []int{1, 15, 16, 28} {
				for _, second := range []int{0, 2, 62, 64, 3600, 43200, 65536, 86398} {
					l = append(l, Moment{year, month, day, second / 3600, second / 60 % 60, second % 60})
				}
			}
		}
	}
	for _, a := range l {
		na, _ := Put(a)
		for _, b := range l {
			nb, _ := Put(b)
			if want := calendar(a).Compare(calendar(b)); cmp.Compare(na, nb) != want {
				t.Fatalf("%v: %d, %v: %d, wanted them in order %d", a, na, b, nb, want)
			}
		}
	}
}

// P8.3: an odd second has the number of the even one ahead, so numbers don't fall there either.
func TestOddSeconds(t *testing.T) {
	for s := 0; s < 60; s += 2 {
		even, _ := Put(Moment{2024, 2, 29, 12, 30, s})
		odd, _ := Put(Moment{2024, 2, 29, 12, 30, s + 1})
		if odd != even || even != 1482489856+24576+960+s/2 {
			t.Errorf("second %d: %d, second %d: %d", s, even, s+1, odd)
		}
	}
}
