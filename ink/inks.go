package ink

import "slices"

// ink is what makes a colour of each colour that it is printed over.
type ink interface {
	over(colour int) int
}

// opaque is an ink that is seen as the same colour wherever it is printed.
type opaque int

// transparent is an ink that is not opaque: what it makes of each colour.
type transparent [MaxColours]int

// over returns the ink's own colour.
func (o opaque) over(int) int { return int(o) }

// over returns what the ink makes of a colour.
func (t transparent) over(colour int) int { return t[colour] }

// inkOf returns the ink that makes these colours.
func inkOf(makes []int) ink {
	first := makes[0]
	if !slices.ContainsFunc(makes, func(colour int) bool { return colour != first }) {
		return opaque(first)
	}
	var t transparent
	copy(t[:], makes)
	return t
}

// inksOf returns the inks of a valid palette.
func inksOf(p Palette) []ink {
	var inks []ink
	for _, makes := range p.Inks {
		inks = append(inks, inkOf(makes))
	}
	return inks
}

// stonesOf returns the ink of each stone of a sequence.
func stonesOf(p Palette, sequence []int) []ink {
	inks := inksOf(p)
	var stones []ink
	for _, number := range sequence {
		stones = append(stones, inks[number])
	}
	return stones
}
