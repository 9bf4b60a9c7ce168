package ink

import (
	"slices"

	"tusche/api"
)

// Colour returns the colour of a choice.
func Colour(p Palette, sequence []int, choice []bool) (int, api.Errno) {
	if e := checkStones(p, sequence, MaxStones); e != api.OK {
		return 0, e
	}
	if len(choice) != len(sequence) {
		return 0, api.ErrSize
	}
	colour := paper
	for i, stone := range stonesOf(p, sequence) {
		if choice[i] {
			colour = stone.over(colour)
		}
	}
	return colour, api.OK
}

// Gives returns the colours that a sequence gives.
func Gives(p Palette, sequence []int) ([]int, api.Errno) {
	if e := checkStones(p, sequence, MaxStones); e != api.OK {
		return nil, e
	}
	return gives(stonesOf(p, sequence)).list(), api.OK
}

// Choose returns which stones an area gets.
func Choose(p Palette, sequence []int, colour int) ([]bool, api.Errno) {
	if e := checkStones(p, sequence, MaxStones); e != api.OK {
		return nil, e
	}
	if !within(colour, p.Colours) {
		return nil, api.ErrBounds
	}
	best := waysOf(stonesOf(p, sequence))[colour]
	if !best.found {
		return nil, api.ErrLost
	}
	return slices.Clone(best.choice[:len(sequence)]), api.OK
}

// Spare returns the stones that can be left out.
func Spare(p Palette, sequence []int) ([]int, api.Errno) {
	if e := checkStones(p, sequence, MaxStones); e != api.OK {
		return nil, e
	}
	stones := stonesOf(p, sequence)
	all := gives(stones)
	var spare []int
	for i := range stones {
		if gives(slices.Concat(stones[:i], stones[i+1:])) == all {
			spare = append(spare, i)
		}
	}
	return spare, api.OK
}

// Serves checks whether a sequence serves a sketch.
func Serves(p Palette, sketch, sequence []int) api.Errno {
	if e := checkStones(p, sequence, MaxStones); e != api.OK {
		return e
	}
	if e := checkAscending(p, sketch); e != api.OK {
		return e
	}
	if !setOf(sketch).in(gives(stonesOf(p, sequence))) {
		return api.ErrProof
	}
	return api.OK
}

// gives returns the colours that stones give.
func gives(stones []ink) set {
	given := blank
	for _, stone := range stones {
		given = given.printed(stone)
	}
	return given
}

// way is a choice with a colour, if there is one, and how many stones an area gets by it.
type way struct {
	found  bool
	choice [MaxStones]bool
	stones int
}

// waysOf returns, for each colour, a way to it in which an area gets as few of the stones as possible.
func waysOf(stones []ink) [MaxColours]way {
	var ways [MaxColours]way
	ways[paper].found = true
	for i, stone := range stones {
		before := ways
		for colour, longer := range before {
			if !longer.found {
				continue
			}
			longer.choice[i] = true
			longer.stones++
			made := stone.over(colour)
			if !ways[made].found || longer.stones < ways[made].stones {
				ways[made] = longer
			}
		}
	}
	return ways
}
