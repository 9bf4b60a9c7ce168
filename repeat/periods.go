package repeat

import (
	"iter"
	"strings"

	"tusche/api"
)

// Periods returns all periods of a border.
func Periods(border string) ([]int, api.Errno) {
	if e := Check(border); e != api.OK {
		return nil, e
	}
	var all []int
	for period := range periodsOf(border) {
		all = append(all, period)
	}
	return all, api.OK
}

// Root returns the root of a border, and its exponent. The root is as long as the smallest period that divides the number of figures.
func Root(border string) (root string, exponent int, e api.Errno) {
	if e := Check(border); e != api.OK {
		return "", 0, e
	}
	length := len(border)
	for period := range periodsOf(border) {
		if len(border)%period == 0 {
			length = period
			break
		}
	}
	return strings.Clone(border[:length]), len(border) / length, api.OK
}

// Covers returns all lengths that cover a border.
func Covers(border string) ([]int, api.Errno) {
	if e := Check(border); e != api.OK {
		return nil, e
	}
	var all []int
	for length := 1; length <= len(border); length++ {
		if covers(border, length) {
			all = append(all, length)
		}
	}
	return all, api.OK
}

// Plain returns the smallest border of two figures that has the same periods. By a theorem of Guibas and Odlyzko, there always is one.
func Plain(border string) (string, api.Errno) {
	if e := Check(border); e != api.OK {
		return "", e
	}
	if len(border) > MaxPlain {
		return "", api.ErrOver
	}
	plain := ""
	for number := range 1 << len(border) {
		plain = numbered(number, len(border))
		if samePeriods(plain, border) {
			break
		}
	}
	return plain, api.OK
}

// periodsOf yields all periods of a border, in ascending order.
func periodsOf(border string) iter.Seq[int] {
	return func(yield func(int) bool) {
		for number := 1; number <= len(border); number++ {
			if isPeriod(border, number) && !yield(number) {
				return
			}
		}
	}
}

// isPeriod reports whether a number is a period of a border, which has at least so many figures.
func isPeriod(border string, number int) bool {
	return strings.HasPrefix(border, border[number:])
}

// samePeriods reports whether two borders with the same number of figures have the same periods.
func samePeriods(a, b string) bool {
	for number := 1; number < len(a); number++ {
		if isPeriod(a, number) != isPeriod(b, number) {
			return false
		}
	}
	return true
}

// covers reports whether a length covers a border.
func covers(border string, length int) bool {
	covered := 0 // so many of the first figures are covered; a piece that begins after them would leave a gap
	for at := range len(border) {
		if at <= covered && strings.HasPrefix(border[at:], border[:length]) {
			covered = at + length
		}
	}
	return covered == len(border)
}

// numbered returns a border of a and b. They are numbered from 0 in ascending order.
func numbered(number, length int) string {
	figures := make([]byte, length)
	for i := range figures {
		bit := number >> (length - 1 - i) & 1
		figures[i] = 'a' + byte(bit)
	}
	return string(figures)
}
