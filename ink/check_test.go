package ink_test

import (
	"math"
	"slices"
	"testing"

	"tusche/api"
	"tusche/ink"
)

// badPalettes are palettes with an error.
func badPalettes() []struct {
	palette ink.Palette
	want    api.Errno
} {
	many := slices.Repeat([][]int{list(1, 0)}, 7)
	return []struct {
		palette ink.Palette
		want    api.Errno
	}{
		{ink.Palette{}, api.ErrBounds},
		{palette(1, list(0)), api.ErrBounds},
		{palette(0, list()), api.ErrBounds},
		{palette(-2, list(0, 1)), api.ErrBounds},
		{palette(8, list(0, 1, 2, 3, 4, 5, 6, 7)), api.ErrBounds},
		{palette(math.MaxInt, list(0, 1)), api.ErrBounds},
		{palette(math.MinInt, list(0, 1)), api.ErrBounds},
		{palette(1), api.ErrBounds},
		{palette(8, many...), api.ErrBounds},
		{palette(2), api.ErrEmpty},
		{ink.Palette{Colours: 7, Inks: [][]int{}}, api.ErrEmpty},
		{palette(2, many...), api.ErrMany},
		{palette(3, many...), api.ErrMany},
		{palette(2, make([][]int, 5000)...), api.ErrMany},
		{palette(2, nil), api.ErrSize},
		{palette(2, list(0)), api.ErrSize},
		{palette(2, list(0, 1, 0)), api.ErrSize},
		{palette(2, list(9, 9, 9)), api.ErrSize},
		{palette(2, make([]int, 5000)), api.ErrSize},
		{palette(2, list(0, 2)), api.ErrBounds},
		{palette(2, list(-1, 0)), api.ErrBounds},
		{palette(7, list(0, 1, 2, 3, 4, 5, 7)), api.ErrBounds},
		{palette(2, list(math.MinInt, 0)), api.ErrBounds},
		{palette(2, list(0, math.MaxInt)), api.ErrBounds},
		{palette(2, list(0, 1), list(1, 2), list(0)), api.ErrBounds}, // the first ink with an error decides
		{palette(2, list(0, 1), list(1), list(0, 2)), api.ErrSize},
	}
}

// P3.1.
func TestCheck(t *testing.T) {
	for i, x := range badPalettes() {
		if e := ink.Check(x.palette); e != x.want {
			t.Errorf("%d: Check: %d, want %d", i, e, x.want)
		}
	}
	for _, p := range palettes() {
		if e := ink.Check(p); e != api.OK {
			t.Errorf("Check of %v: %d", p, e)
		}
	}
}

// P3.1: the smallest palette, and the greatest one.
func TestCheckEdges(t *testing.T) {
	for _, p := range []ink.Palette{palette(2, list(0, 0)), palette(2, list(1, 1)), palette(7, list(6, 5, 4, 3, 2, 1, 0)), full()} {
		if e := ink.Check(p); e != api.OK {
			t.Errorf("Check of %v: %d", p, e)
		}
	}
}

// badSequences are lists that are no sequences of a palette with 3 inks, with their errors.
func badSequences() []struct {
	sequence []int
	want     api.Errno
} {
	return []struct {
		sequence []int
		want     api.Errno
	}{
		{make([]int, 13), api.ErrMany},
		{slices.Repeat(list(3), 13), api.ErrMany},
		{make([]int, 5000), api.ErrMany},
		{list(3), api.ErrNone},
		{list(-1), api.ErrNone},
		{list(0, 1, 2, 3), api.ErrNone},
		{list(math.MinInt, 0), api.ErrNone},
		{list(0, math.MaxInt), api.ErrNone},
		{append(make([]int, 11), 3), api.ErrNone},
	}
}

// badLists are lists of colours that do not ascend, or are none of a palette with 5 colours, with their errors.
func badLists() []struct {
	colours []int
	want    api.Errno
} {
	return []struct {
		colours []int
		want    api.Errno
	}{
		{list(5), api.ErrNone},
		{list(-1), api.ErrNone},
		{list(0, 1, 5), api.ErrNone},
		{list(0, math.MaxInt), api.ErrNone},
		{list(math.MinInt), api.ErrNone},
		{list(4, -1), api.ErrNone}, // it is not greater than the one before it, either
		{list(0, 0), api.ErrOrder},
		{list(1, 0), api.ErrOrder},
		{list(0, 2, 1), api.ErrOrder},
		{list(4, 4), api.ErrOrder},
		{list(2, 1, 5), api.ErrOrder}, // the first element with an error decides
		{list(5, 2, 1), api.ErrNone},
		{make([]int, 5000), api.ErrOrder},
	}
}
