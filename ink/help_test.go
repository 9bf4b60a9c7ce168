package ink_test

import (
	"slices"
	"testing"

	"tusche/api"
	"tusche/ink"
)

func list(l ...int) []int { return l }

func yes(l ...bool) []bool { return l }

// palette returns a palette; its inks are memory of its own.
func palette(colours int, inks ...[]int) ink.Palette {
	p := ink.Palette{Colours: colours}
	for _, makes := range inks {
		p.Inks = append(p.Inks, slices.Clone(makes))
	}
	return p
}

// exampleP is P of the chapter's examples: yellow, red and black.
func exampleP() ink.Palette {
	return palette(5, list(1, 1, 3, 3, 4), list(2, 3, 2, 3, 4), list(4, 4, 4, 4, 4))
}

// without2 is P without the ink 2.
func without2() ink.Palette {
	return palette(5, exampleP().Inks[:2]...)
}

// chain is a palette in which a stone leads from each colour to the next one, and only there.
func chain(colours int) ink.Palette {
	var next []int
	for colour := range colours {
		next = append(next, min(colour+1, colours-1))
	}
	return palette(colours, next)
}

// full is a palette with as many colours and inks as there can be: opaque inks for all colours but the paper.
func full() ink.Palette {
	p := ink.Palette{Colours: ink.MaxColours}
	for colour := 1; colour < ink.MaxColours; colour++ {
		p.Inks = append(p.Inks, slices.Repeat(list(colour), ink.MaxColours))
	}
	return p
}

// lists returns all lists of numbers below a base, in ascending order.
func lists(base, size int) [][]int {
	if size == 0 {
		return [][]int{nil}
	}
	var all [][]int
	for _, head := range lists(base, size-1) {
		for n := range base {
			all = append(all, append(slices.Clone(head), n))
		}
	}
	return all
}

// listsUpTo returns all lists of numbers below a base, shorter ones first.
func listsUpTo(base, size int) [][]int {
	all := [][]int{nil}
	for n := 1; n <= size; n++ {
		all = append(all, lists(base, n)...)
	}
	return all
}

// choicesOf returns all choices for some stones.
func choicesOf(stones int) [][]bool {
	var all [][]bool
	for _, l := range lists(2, stones) {
		choice := []bool{}
		for _, n := range l {
			choice = append(choice, n == 1)
		}
		all = append(all, choice)
	}
	return all
}

// listsOf returns all ascending lists of colours.
func listsOf(colours int) [][]int {
	var all [][]int
	for bits := range 1 << colours {
		var l []int
		for colour := range colours {
			if bits>>colour&1 == 1 {
				l = append(l, colour)
			}
		}
		all = append(all, l)
	}
	return all
}

// smallPalettes returns all palettes with 2 colours and up to 2 inks, all with 3 colours and one ink, and some with 3 colours and 2 inks.
func smallPalettes() []ink.Palette {
	var all []ink.Palette
	for colours := 2; colours <= 3; colours++ {
		inks := lists(colours, colours)
		for i, one := range inks {
			all = append(all, palette(colours, one))
			for j, other := range inks {
				if colours == 2 || (i+2*j)%3 == 0 {
					all = append(all, palette(colours, one, other))
				}
			}
		}
	}
	return all
}

// mixed returns a palette whose inks make what follows from a number, and follow no rule otherwise. A third of them are opaque.
func mixed(colours, inks int, number uint32) ink.Palette {
	next := func(limit int) int {
		number = number*1664525 + 1013904223
		return int(number>>16) % limit
	}
	p := ink.Palette{Colours: colours}
	for range inks {
		makes := slices.Repeat(list(next(colours)), colours)
		if next(3) > 0 {
			for colour := range makes {
				makes[colour] = next(colours)
			}
		}
		p.Inks = append(p.Inks, makes)
	}
	return p
}

// bigPalettes returns palettes with up to 7 colours and 6 inks.
func bigPalettes() []ink.Palette {
	all := []ink.Palette{
		exampleP(), without2(), full(), chain(4), chain(5), chain(6), chain(7),
		palette(4, list(0, 2, 1, 3), list(1, 0, 3, 2)),                                                                         // a colour can be left again
		palette(4, list(0, 1, 2, 3), list(0, 3, 2, 1)),                                                                         // never more than the paper
		palette(6, list(1, 2, 0, 4, 5, 3), list(0, 3, 3, 3, 3, 3)),                                                             // two rounds
		palette(7, list(1, 1, 3, 3, 5, 5, 6), list(2, 3, 2, 3, 6, 6, 6), list(4, 5, 6, 6, 4, 5, 6)),                            // three bits
		palette(7, list(0, 2, 2, 3, 4, 5, 6), list(1, 1, 2, 3, 4, 6, 6), list(0, 1, 3, 3, 4, 5, 6), list(0, 1, 2, 4, 5, 5, 6)), // one after the other
	}
	for colours := 3; colours <= ink.MaxColours; colours++ {
		for inks := 1; inks <= ink.MaxInks; inks++ {
			for number := range uint32(4) {
				all = append(all, mixed(colours, inks, 100*number+uint32(10*colours+inks)))
			}
		}
	}
	return all
}

// palettes returns palettes of all sizes.
func palettes() []ink.Palette {
	return slices.Concat(smallPalettes(), bigPalettes())
}

// sequencesOf returns some sequences of a palette: all short ones, and some with up to 12 stones.
func sequencesOf(p ink.Palette) [][]int {
	inks := len(p.Inks)
	all := listsUpTo(inks, 2)
	for size := 3; size <= 6; size++ {
		for i, sequence := range lists(min(inks, 4), size) {
			if i%(size*size+1) == size {
				all = append(all, sequence)
			}
		}
	}
	var long []int
	for i := range ink.MaxStones {
		long = append(long, (i*i+i/3)%inks)
	}
	return append(all, long[:7], long)
}

// walk returns the colour of a choice, as the chapter defines it.
func walk(p ink.Palette, sequence []int, choice []bool) int {
	if len(sequence) == 0 {
		return 0
	}
	last := len(sequence) - 1
	before := walk(p, sequence[:last], choice[:last])
	if !choice[last] {
		return before
	}
	return p.Inks[sequence[last]][before]
}

// takes returns the smallest number of stones of all choices with each colour that is given, as the chapter defines it.
func takes(p ink.Palette, sequence []int) map[int]int {
	fewest := map[int]int{}
	for _, choice := range choicesOf(len(sequence)) {
		colour, n := walk(p, sequence, choice), taken(choice)
		if least, is := fewest[colour]; !is || n < least {
			fewest[colour] = n
		}
	}
	return fewest
}

// taken returns how many stones an area gets.
func taken(choice []bool) int {
	n := 0
	for _, is := range choice {
		if is {
			n++
		}
	}
	return n
}

// given returns the colours of all choices in ascending order, as the chapter defines it.
func given(p ink.Palette, sequence []int) []int {
	fewest := takes(p, sequence)
	var colours []int
	for colour := range p.Colours {
		if _, is := fewest[colour]; is {
			colours = append(colours, colour)
		}
	}
	return colours
}

// needs returns, for each colour that an area can get, how many stones lead to it at least. No colour is met twice on the shortest way.
func needs(p ink.Palette) map[int]int {
	fewest := map[int]int{}
	var print func(colour, stones int)
	print = func(colour, stones int) {
		if least, is := fewest[colour]; is && least <= stones {
			return
		}
		fewest[colour] = stones
		for _, makes := range p.Inks {
			print(makes[colour], stones+1)
		}
	}
	print(0, 0)
	return fewest
}

// isClosed reports whether an ascending list of colours is closed, as the chapter defines it.
func isClosed(p ink.Palette, colours []int) bool {
	if !slices.Contains(colours, 0) {
		return false
	}
	for _, colour := range colours {
		for _, makes := range p.Inks {
			if !slices.Contains(colours, makes[colour]) {
				return false
			}
		}
	}
	return true
}

// contains reports whether a list has all numbers of another one.
func contains(l, part []int) bool {
	for _, n := range part {
		if !slices.Contains(l, n) {
			return false
		}
	}
	return true
}

// gives returns what Gives returns.
func gives(t *testing.T, p ink.Palette, sequence []int) []int {
	t.Helper()
	colours, e := ink.Gives(p, sequence)
	if e != api.OK {
		t.Fatalf("Gives of %v: %v: %d", p, sequence, e)
	}
	return colours
}

// ever returns what Ever returns.
func ever(t *testing.T, p ink.Palette) []int {
	t.Helper()
	colours, e := ink.Ever(p)
	if e != api.OK {
		t.Fatalf("Ever of %v: %d", p, e)
	}
	return colours
}
