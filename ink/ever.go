package ink

import "tusche/api"

// Ever returns the colours that some sequence gives.
func Ever(p Palette) ([]int, api.Errno) {
	if e := Check(p); e != api.OK {
		return nil, e
	}
	inks := inksOf(p)
	given := blank
	for !closed(given, inks) {
		given = grown(given, inks)
	}
	return given.list(), api.OK
}

// Excludes checks a list of colours that proves that another one is never given.
func Excludes(p Palette, colours []int, colour int) api.Errno {
	if e := checkColour(p, colour); e != api.OK {
		return e
	}
	if e := checkAscending(p, colours); e != api.OK {
		return e
	}
	listed := setOf(colours)
	if !listed.has(paper) || !closed(listed, inksOf(p)) {
		return api.ErrOpen
	}
	if listed.has(colour) {
		return api.ErrProof
	}
	return api.OK
}

// Stones returns how many stones a colour needs.
func Stones(p Palette, colour int) (int, api.Errno) {
	if e := checkColour(p, colour); e != api.OK {
		return 0, e
	}
	inks := inksOf(p)
	stones := 0
	for given := blank; !given.has(colour); given = grown(given, inks) {
		if closed(given, inks) {
			return 0, api.ErrLost
		}
		stones++
	}
	return stones, api.OK
}

// grown returns colours with what any one of the inks makes of them.
func grown(given set, inks []ink) set {
	after := given
	for _, stone := range inks {
		after |= given.printed(stone)
	}
	return after
}

// closed reports whether no ink makes another colour of colours.
func closed(given set, inks []ink) bool {
	return grown(given, inks) == given
}
