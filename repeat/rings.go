package repeat

import (
	"strings"

	"tusche/api"
)

// First returns the first form of a ring.
func First(border string) (string, api.Errno) {
	if e := Check(border); e != api.OK {
		return "", e
	}
	return strings.Clone(firstForm(border)), api.OK
}

// Same returns whether two borders are the same ring.
func Same(a, b string) (bool, api.Errno) {
	if e := Check(a); e != api.OK {
		return false, e
	}
	if e := Check(b); e != api.OK {
		return false, e
	}
	return firstForm(a) == firstForm(b), api.OK
}

// Rings returns the number of rings. A ring whose root has r figures is r borders, each of which n / r of the n turns keep: over all turns, the borders that are kept are n for each ring.
func Rings(n, kinds int) (int, api.Errno) {
	if !upTo(n, MaxRing) || !upTo(kinds, MaxKinds) {
		return 0, api.ErrSize
	}
	kept := 0
	for turn := range n {
		kept += power(kinds, commonDivisor(n, turn))
	}
	return kept / n, api.OK
}

// firstForm returns the first form of the ring of a border.
func firstForm(border string) string {
	first := border
	for turn := range len(border) {
		first = min(first, border[turn:]+border[:turn])
	}
	return first
}

// commonDivisor returns the greatest common divisor of two numbers. 0 is a multiple of each number.
func commonDivisor(a, b int) int {
	for b != 0 {
		a, b = b, a%b
	}
	return a
}

// power returns the product of so many times a number.
func power(number, times int) int {
	product := 1
	for range times {
		product *= number
	}
	return product
}
