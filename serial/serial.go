// Package serial is layer 1: see shared/doc/01-serial.md.
package serial

import "tusche/api"

// The limits.
const (
	MaxBase   = 10
	MaxDigits = 12
)

// minBase and minCode are the fewest rows of a table and digits of a code; maxValue is the most bytes of a value.
const (
	minBase  = 2
	minCode  = 2
	maxValue = 8
)

// Spot is a state and two digits.
type Spot struct {
	State int
	A     int
	B     int
}

// Fix is a digit that makes a code right, and where.
type Fix struct {
	At    int
	Digit int
}

// Name reports whether a string is a name.
func Name(s string) bool {
	if s == "" || len(s) > api.MaxName {
		return false
	}
	for _, letter := range s {
		if letter < 'a' || letter > 'z' {
			return false
		}
	}
	return true
}

// Value returns the number that a string stands for.
func Value(s string) (n int, is bool) {
	if s == "" || len(s) > maxValue || s[0] == '0' && len(s) > 1 {
		return 0, false
	}
	for _, digit := range s {
		if digit < '0' || digit > '9' {
			return 0, false
		}
		n = 10*n + int(digit-'0')
	}
	return n, true
}
