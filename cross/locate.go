package cross

import (
	"slices"

	"tusche/api"
)

// Locate returns the shifts at which just some crosses are seen.
func Locate(rule []int, width int, seen []int) ([]int, api.Errno) {
	if e := Check(rule); e != api.OK {
		return nil, e
	}
	if !within(width, 0, MaxPlace) {
		return nil, api.ErrBounds
	}
	if e := checkAscending(seen, width); e != api.OK {
		return nil, e
	}
	var shifts []int
	for shift := -MaxPlace; shift <= MaxPlace; shift++ {
		if slices.Equal(show(rule, width, shift), seen) {
			shifts = append(shifts, shift)
		}
	}
	return shifts, api.OK
}

// show returns what is seen on a piece of a width at a shift.
func show(rule []int, width, shift int) []int {
	var seen []int
	for _, place := range rule {
		if place >= shift && place <= shift+width {
			seen = append(seen, place-shift)
		}
	}
	return seen
}
