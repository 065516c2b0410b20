package dos

import "inquest/api"

const (
	// shape is how a moment is written: digits stand where it has a 0, its other bytes as they are.
	shape = "0000-00-00 00:00:00"
	// short is how many bytes of that a text has that tells no time.
	short = 10
)

// Text is the moment whose number n is, as a text.
func Text(n int) (string, api.Errno) {
	m, e := Get(n)
	if e != api.OK {
		return "", e
	}
	if m == midnight(m) {
		return write(m)[:short], api.OK
	}
	return write(m), api.OK
}

// midnight is the first moment of m's day.
func midnight(m Moment) Moment {
	return Moment{Year: m.Year, Month: m.Month, Day: m.Day}
}

// write writes all of m, backwards, as a number's last digit is the one that is got first.
func write(m Moment) string {
	numbers := [...]int{m.Year, m.Month, m.Day, m.Hour, m.Minute, m.Second}
	which := len(numbers) - 1
	b := []byte(shape)
	for at := len(b) - 1; at >= 0; at-- {
		if b[at] != '0' {
			which--
			continue
		}
		b[at] += byte(numbers[which] % 10)
		numbers[which] /= 10
	}
	return string(b)
}

// Parse is the number of the moment that the text is.
func Parse(text string) (int, bool) {
	if len(text) != short && len(text) != len(shape) {
		return 0, false
	}
	n, e := Put(read(text))
	return n, e == api.OK
}

// read reads what is written in the shape, or in so much of it as the text is long. Of what isn't written so comes the zero Moment, which isn't right.
func read(text string) Moment {
	var numbers [6]int
	which := 0
	for at := range len(text) {
		c := text[at]
		switch {
		case shape[at] != '0':
			if c != shape[at] {
				return Moment{}
			}
			which++
		case c < '0' || c > '9':
			return Moment{}
		default:
			numbers[which] = numbers[which]*10 + int(c-'0')
		}
	}
	return Moment{numbers[0], numbers[1], numbers[2], numbers[3], numbers[4], numbers[5]}
}
