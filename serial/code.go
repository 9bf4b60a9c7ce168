package serial

import (
	"slices"

	"tusche/api"
)

// State returns the state after digits.
func State(table [][]int, digits []int) (int, api.Errno) {
	if e := checkDigits(table, digits, 0); e != api.OK {
		return 0, e
	}
	return after(table, digits), api.OK
}

// Digit returns the check digit of digits.
func Digit(table [][]int, digits []int) (int, api.Errno) {
	if e := checkDigits(table, digits, 0); e != api.OK {
		return 0, e
	}
	return checkDigit(table, digits), api.OK
}

// Right checks whether a code is right.
func Right(table [][]int, code []int) api.Errno {
	if e := checkDigits(table, code, minCode); e != api.OK {
		return e
	}
	if after(table, code) != 0 {
		return api.ErrProof
	}
	return api.OK
}

// Fixes returns the digits that make a code right.
func Fixes(table [][]int, code []int) ([]Fix, api.Errno) {
	if e := checkWrong(table, code); e != api.OK {
		return nil, e
	}
	var fixes []Fix
	for at := range code {
		fixes = append(fixes, Fix{At: at, Digit: digitAt(table, code, at)})
	}
	return fixes, api.OK
}

// Swaps returns which exchanged neighbours make a code right.
func Swaps(table [][]int, code []int) ([]int, api.Errno) {
	if e := checkWrong(table, code); e != api.OK {
		return nil, e
	}
	var swaps []int
	for i := range len(code) - 1 {
		exchange := func(c []int) { c[i], c[i+1] = c[i+1], c[i] }
		if rightAfter(table, code, exchange) {
			swaps = append(swaps, i)
		}
	}
	return swaps, api.OK
}

// Restore returns a digit that was lost.
func Restore(table [][]int, code []int, at int) (int, api.Errno) {
	if e := checkDigits(table, code, minCode); e != api.OK {
		return 0, e
	}
	if at < 0 || at >= len(code) {
		return 0, api.ErrNone
	}
	return digitAt(table, code, at), api.OK
}

// Code returns the code of a number.
func Code(table [][]int, size, number int) ([]int, api.Errno) {
	if e := Check(table); e != api.OK {
		return nil, e
	}
	if size < minCode || size > MaxDigits {
		return nil, api.ErrSize
	}
	if number < 0 {
		return nil, api.ErrBounds
	}
	digits := make([]int, size-1)
	rest := number
	for i := len(digits) - 1; i >= 0; i-- {
		digits[i] = rest % len(table)
		rest /= len(table)
	}
	if rest > 0 { // the number has more digits than the code has places for it
		return nil, api.ErrBounds
	}
	return append(digits, checkDigit(table, digits)), api.OK
}

// Number returns the number of a code.
func Number(table [][]int, code []int) (int, api.Errno) {
	if e := Right(table, code); e != api.OK {
		return 0, e
	}
	base := int64(len(table))
	number := sum(code[:len(code)-1], func(n int64, digit int) int64 { return n*base + int64(digit) })
	return int(number), api.OK
}

// checkDigits returns the error of a table, or of a list that is to have from least to MaxDigits of its digits.
func checkDigits(table [][]int, digits []int, least int) api.Errno {
	if e := Check(table); e != api.OK {
		return e
	}
	switch {
	case len(digits) < least:
		return api.ErrEmpty
	case len(digits) > MaxDigits:
		return api.ErrMany
	case outside(digits, len(table)):
		return api.ErrBounds
	}
	return api.OK
}

// checkWrong returns the error of a code that is to be wrong.
func checkWrong(table [][]int, code []int) api.Errno {
	switch e := Right(table, code); e {
	case api.ErrProof:
		return api.OK
	case api.OK:
		return api.ErrSame
	default:
		return e
	}
}

// after returns the state after digits.
func after(table [][]int, digits []int) int {
	return sum(digits, func(state, digit int) int { return table[state][digit] })
}

// checkDigit returns the digit that leads from the state after digits to 0.
func checkDigit(table [][]int, digits []int) int {
	return slices.Index(table[after(table, digits)], 0)
}

// digitAt returns the digit with which, at an index, a code is right. Each digit leads to another state, so there is one, and only one.
func digitAt(table [][]int, code []int, at int) int {
	digit := 0
	for !rightAfter(table, code, func(c []int) { c[at] = digit }) {
		digit++
	}
	return digit
}

// rightAfter reports whether a code would be right after a change, which is done to a copy of it.
func rightAfter(table [][]int, code []int, change func([]int)) bool {
	changed := slices.Clone(code)
	change(changed)
	return after(table, changed) == 0
}

// sum adds digits, one by one, to what the digits before them come to, beginning with 0. States fit into an int of any size, numbers of codes need 64 bits.
func sum[N int | int64](digits []int, add func(before N, digit int) N) N {
	var total N
	for _, digit := range digits {
		total = add(total, digit)
	}
	return total
}
