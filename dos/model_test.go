package dos

import (
	"testing"
	"time"

	"inquest/api"
)

// The model tells the chapter anew, by the library's calendar: a moment that isn't one becomes another there.

// calendar is m as the library has it.
func calendar(m Moment) time.Time {
	return time.Date(m.Year, time.Month(m.Month), m.Day, m.Hour, m.Minute, m.Second, 0, time.UTC)
}

// moment is t as a moment.
func moment(t time.Time) Moment {
	return Moment{t.Year(), int(t.Month()), t.Day(), t.Hour(), t.Minute(), t.Second()}
}

// isMoment tells what Right is to tell.
func isMoment(m Moment) bool {
	return m.Year >= 1980 && m.Year <= 2107 && moment(calendar(m)) == m
}

// number is what Put is to make of a moment.
func number(m Moment) int {
	day := (m.Year-1980)*512 + m.Month*32 + m.Day
	return day*65536 + m.Hour*2048 + m.Minute*32 + m.Second/2
}

// cut is what n tells, whether that is a moment or not.
func cut(n int) Moment {
	return Moment{1980 + n/65536/512, n / 65536 / 32 % 16, n / 65536 % 32, n / 2048 % 32, n / 32 % 64, n % 32 * 2}
}

// written is what Text is to make of a moment.
func written(m Moment) string {
	if m.Hour == 0 && m.Minute == 0 && m.Second == 0 {
		return calendar(m).Format(time.DateOnly)
	}
	return calendar(m).Format(time.DateTime)
}

// parsed is what Parse is to answer.
func parsed(text string) (int, bool) {
	for _, layout := range []string{time.DateOnly, time.DateTime} {
		t, err := time.Parse(layout, text)
		if err == nil && t.Format(layout) == text && isMoment(moment(t)) {
			return number(moment(t)), true
		}
	}
	return 0, false
}

// asModel holds all that is asked of a number against the model.
func asModel(t *testing.T, n int) {
	t.Helper()
	want, is := cut(n), isMoment(cut(n))
	text, wrong := "", api.OK
	if is {
		text = written(want)
	} else {
		want, wrong = Moment{}, api.ErrArg
	}
	if m, e := Get(n); m != want || e != wrong {
		t.Errorf("Get(%d): %v, %v, wanted %v, %v", n, m, e, want, wrong)
	}
	if s, e := Text(n); s != text || e != wrong {
		t.Errorf("Text(%d): %q, %v, wanted %q, %v", n, s, e, text, wrong)
	}
	if !is {
		return
	}
	if got, e := Put(want); got != n || e != api.OK {
		t.Errorf("Put(%v): %d, %v, wanted %d", want, got, e, n)
	}
	if got, is := Parse(text); got != n || !is {
		t.Errorf("Parse(%q): %d, %v, wanted %d", text, got, is, n)
	}
}

// asModelOf holds what is asked of m against the model.
func asModelOf(t *testing.T, m Moment) {
	t.Helper()
	is, want, wrong := isMoment(m), 0, api.ErrArg
	if is {
		want, wrong = number(m), api.OK
	}
	if got := Right(m); got != is {
		t.Errorf("Right(%v): %v", m, got)
	}
	if n, e := Put(m); n != want || e != wrong {
		t.Errorf("Put(%v): %d, %v, wanted %d, %v", m, n, e, want, wrong)
	}
}

// asModelIn holds what Parse makes of a text against the model.
func asModelIn(t *testing.T, text string) {
	t.Helper()
	want, wants := parsed(text)
	if n, is := Parse(text); n != want || is != wants {
		t.Errorf("Parse(%q): %d, %v, wanted %d, %v", text, n, is, want, wants)
	}
}
