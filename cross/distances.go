package cross

import (
	"slices"

	"tusche/api"
)

// Distances returns all distances of a rule.
func Distances(rule []int) ([]int, api.Errno) {
	if e := Check(rule); e != api.OK {
		return nil, e
	}
	return sift(rule, true), api.OK
}

// Missing returns the numbers that are no distances.
func Missing(rule []int) ([]int, api.Errno) {
	if e := Check(rule); e != api.OK {
		return nil, e
	}
	return sift(rule, false), api.OK
}

// sift returns the numbers from 1 to the length of a rule that are distances, or those that are not.
func sift(rule []int, areDistances bool) []int {
	var all []int
	m := meetPairs(rule, func(_, _ [2]int) {})
	for number := 1; number <= length(rule); number++ {
		if m.has(number) == areDistances {
			all = append(all, number)
		}
	}
	return all
}

// Common returns how many crosses fall on others at a shift.
func Common(rule []int, shift int) (int, api.Errno) {
	if e := Check(rule); e != api.OK {
		return 0, e
	}
	if !within(shift, -MaxPlace, MaxPlace) {
		return 0, api.ErrBounds
	}
	n := 0
	for _, place := range rule {
		if slices.Contains(rule, place+shift) {
			n++
		}
	}
	return n, api.OK
}
