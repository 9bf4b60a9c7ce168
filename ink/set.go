package ink

import "math/bits"

// set is colours, each of which has a bit.
type set uint8

// blank is the set of what is given without a stone.
const blank set = 1 << paper

// setOf returns the set of some colours.
func setOf(colours []int) set {
	var s set
	for _, colour := range colours {
		s = s.with(colour)
	}
	return s
}

// with returns the set with one colour more, if it is not in it.
func (s set) with(colour int) set {
	return s | 1<<colour
}

// has reports whether a colour is in the set.
func (s set) has(colour int) bool {
	return s&(1<<colour) != 0
}

// in reports whether all of the set's colours are in another one.
func (s set) in(other set) bool {
	return s&^other == 0
}

// size returns the number of the set's colours.
func (s set) size() int {
	return bits.OnesCount8(uint8(s))
}

// list returns the set's colours in ascending order.
func (s set) list() []int {
	var colours []int
	for colour := range MaxColours {
		if s.has(colour) {
			colours = append(colours, colour)
		}
	}
	return colours
}

// printed returns the set with what a stone adds to it, where some areas of each colour get the stone, and others do not.
func (s set) printed(stone ink) set {
	after := s
	switch k := stone.(type) {
	case opaque:
		after = after.with(int(k))
	case transparent:
		for _, colour := range s.list() {
			after = after.with(k.over(colour))
		}
	}
	return after
}
