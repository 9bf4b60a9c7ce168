package ink_test

import (
	"math"
	"slices"
	"testing"

	"tusche/api"
	"tusche/ink"
)

// P3.2.
func TestColour(t *testing.T) {
	for _, p := range palettes() {
		for _, sequence := range listsUpTo(len(p.Inks), 3) {
			for _, choice := range choicesOf(len(sequence)) {
				if c, e := ink.Colour(p, sequence, choice); c != walk(p, sequence, choice) || e != api.OK {
					t.Fatalf("Colour of %v: %v, %v: %d %d, want %d", p, sequence, choice, c, e, walk(p, sequence, choice))
				}
			}
		}
	}
}

// P3.2: 12 stones, and none.
func TestColourEdges(t *testing.T) {
	for _, choice := range choicesOf(ink.MaxStones) {
		sequence := list(0, 1, 0, 0, 1, 2, 0, 1, 1, 2, 0, 1)
		p := palette(7, list(1, 2, 3, 4, 5, 6, 6), list(0, 0, 1, 2, 3, 4, 5), list(6, 5, 4, 3, 2, 1, 0))
		if c, e := ink.Colour(p, sequence, choice); c != walk(p, sequence, choice) || e != api.OK {
			t.Fatalf("Colour of %v: %d %d", choice, c, e)
		}
	}
	if c, e := ink.Colour(exampleP(), nil, nil); c != 0 || e != api.OK {
		t.Errorf("Colour without stones: %d %d", c, e)
	}
}

// P3.2.
func TestColourErrors(t *testing.T) {
	for i, x := range badSequences() {
		for _, choice := range [][]bool{nil, make([]bool, len(x.sequence))} {
			if c, e := ink.Colour(exampleP(), x.sequence, choice); c != 0 || e != x.want {
				t.Errorf("%d: Colour: %d %d, want %d", i, c, e, x.want)
			}
		}
	}
	for _, x := range []struct {
		sequence []int
		choice   []bool
	}{
		{nil, yes(true)},
		{list(0), nil},
		{list(0, 1), yes(true)},
		{list(0, 1), yes(true, true, true)},
		{make([]int, 12), make([]bool, 13)},
		{list(0), make([]bool, 5000)},
	} {
		if c, e := ink.Colour(exampleP(), x.sequence, x.choice); c != 0 || e != api.ErrSize {
			t.Errorf("Colour of %v with %v: %d %d", x.sequence, x.choice, c, e)
		}
	}
}

// P3.2.
func TestGives(t *testing.T) {
	for _, p := range palettes() {
		for _, sequence := range listsUpTo(len(p.Inks), 3) {
			if l, e := ink.Gives(p, sequence); !slices.Equal(l, given(p, sequence)) || e != api.OK {
				t.Fatalf("Gives of %v: %v: %v %d, want %v", p, sequence, l, e, given(p, sequence))
			}
		}
	}
	for _, p := range bigPalettes()[:20] {
		for _, sequence := range sequencesOf(p) {
			if l, e := ink.Gives(p, sequence); !slices.Equal(l, given(p, sequence)) || e != api.OK {
				t.Fatalf("Gives of %v: %v: %v %d, want %v", p, sequence, l, e, given(p, sequence))
			}
		}
	}
}

// P3.2: 12 stones, and none.
func TestGivesEdges(t *testing.T) {
	for _, x := range []struct {
		palette        ink.Palette
		sequence, want []int
	}{
		{exampleP(), nil, list(0)},
		{palette(2, list(0, 0)), make([]int, 12), list(0)},
		{palette(2, list(1, 0)), make([]int, 12), list(0, 1)},
		{chain(7), make([]int, 5), list(0, 1, 2, 3, 4, 5)},
		{chain(7), make([]int, 6), list(0, 1, 2, 3, 4, 5, 6)},
		{chain(7), make([]int, 12), list(0, 1, 2, 3, 4, 5, 6)},
		{full(), list(5, 4, 3, 2, 1, 0), list(0, 1, 2, 3, 4, 5, 6)},
		{full(), list(5, 5, 5, 5, 5, 5, 5, 5, 5, 5, 5, 5), list(0, 6)},
		{palette(3, list(0, 2, 2), list(1, 1, 2)), append(make([]int, 11), 1), list(0, 1)},
		{palette(3, list(0, 2, 2), list(1, 1, 2)), append(list(1), make([]int, 11)...), list(0, 1, 2)},
	} {
		if l, e := ink.Gives(x.palette, x.sequence); !slices.Equal(l, x.want) || e != api.OK {
			t.Errorf("Gives of %v: %v: %v %d, want %v", x.palette, x.sequence, l, e, x.want)
		}
	}
	for i, x := range badSequences() {
		if l, e := ink.Gives(exampleP(), x.sequence); len(l) != 0 || e != x.want {
			t.Errorf("%d: Gives: %v %d, want %d", i, l, e, x.want)
		}
	}
}

// checkChoose checks what Choose returns for each colour.
func checkChoose(t *testing.T, p ink.Palette, sequence []int) {
	t.Helper()
	fewest := takes(p, sequence)
	for colour := range p.Colours {
		choice, e := ink.Choose(p, sequence, colour)
		least, is := fewest[colour]
		if !is {
			if len(choice) != 0 || e != api.ErrLost {
				t.Fatalf("Choose of %v: %v, %d: %v %d", p, sequence, colour, choice, e)
			}
			continue
		}
		if e != api.OK || len(choice) != len(sequence) || walk(p, sequence, choice) != colour || taken(choice) != least {
			t.Fatalf("Choose of %v: %v, %d: %v %d, but %d stones are enough", p, sequence, colour, choice, e, least)
		}
		if c, e := ink.Colour(p, sequence, choice); c != colour || e != api.OK {
			t.Fatalf("Colour of Choose of %v: %v, %d: %d %d", p, sequence, colour, c, e)
		}
	}
}

// P3.3.
func TestChoose(t *testing.T) {
	for _, p := range palettes() {
		for _, sequence := range listsUpTo(len(p.Inks), 3) {
			checkChoose(t, p, sequence)
		}
	}
	for _, p := range bigPalettes()[:20] {
		for _, sequence := range sequencesOf(p) {
			checkChoose(t, p, sequence)
		}
	}
}

// P3.3: a later stone is a shorter way than earlier ones, and an earlier one than later ones.
func TestChooseShort(t *testing.T) {
	p := palette(4, list(1, 2, 3, 3), list(3, 3, 3, 3))
	for _, x := range []struct {
		sequence []int
		colour   int
		want     []bool
	}{
		{list(0, 0, 0, 1), 3, yes(false, false, false, true)},
		{list(1, 0, 0, 0), 3, yes(true, false, false, false)},
		{list(0, 0, 0), 3, yes(true, true, true)},
		{list(0, 0), 2, yes(true, true)},
		{list(1, 1), 0, yes(false, false)},
		{nil, 0, yes()},
	} {
		if l, e := ink.Choose(p, x.sequence, x.colour); !slices.Equal(l, x.want) || e != api.OK {
			t.Errorf("Choose of %v, %d: %v %d, want %v", x.sequence, x.colour, l, e, x.want)
		}
	}
	if l, e := ink.Choose(p, nil, 1); len(l) != 0 || e != api.ErrLost {
		t.Errorf("Choose without stones: %v %d", l, e)
	}
}

// P3.3.
func TestChooseErrors(t *testing.T) {
	for _, colour := range list(0, 4, 5, -1) {
		for i, x := range badSequences() {
			if l, e := ink.Choose(exampleP(), x.sequence, colour); len(l) != 0 || e != x.want {
				t.Errorf("%d: Choose: %v %d, want %d", i, l, e, x.want)
			}
		}
	}
	for _, colour := range list(5, -1, math.MinInt, math.MaxInt) {
		for _, sequence := range [][]int{nil, list(0), list(0, 1, 2)} {
			if l, e := ink.Choose(exampleP(), sequence, colour); len(l) != 0 || e != api.ErrBounds {
				t.Errorf("Choose of %v, %d: %v %d", sequence, colour, l, e)
			}
		}
	}
}

// P3.4.
func TestSpare(t *testing.T) {
	for _, p := range palettes() {
		for _, sequence := range listsUpTo(len(p.Inks), 3) {
			checkSpare(t, p, sequence)
		}
	}
	for _, p := range bigPalettes()[:20] {
		for _, sequence := range sequencesOf(p) {
			checkSpare(t, p, sequence)
		}
	}
}

// checkSpare checks what Spare returns.
func checkSpare(t *testing.T, p ink.Palette, sequence []int) {
	t.Helper()
	var want []int
	for i := range sequence {
		if slices.Equal(gives(t, p, slices.Delete(slices.Clone(sequence), i, i+1)), gives(t, p, sequence)) {
			want = append(want, i)
		}
	}
	if l, e := ink.Spare(p, sequence); !slices.Equal(l, want) || e != api.OK {
		t.Fatalf("Spare of %v: %v: %v %d, want %v", p, sequence, l, e, want)
	}
}

// P3.4: no stones, stones that do nothing, and 12 stones.
func TestSpareEdges(t *testing.T) {
	for _, x := range []struct {
		palette        ink.Palette
		sequence, want []int
	}{
		{exampleP(), nil, nil},
		{exampleP(), list(0), nil},
		{exampleP(), list(0, 1, 2), nil},
		{exampleP(), list(2, 2), list(0, 1)},
		{exampleP(), list(2, 2, 0), list(0, 1)},
		{exampleP(), list(0, 1, 0), list(0, 2)},
		{palette(2, list(0, 0)), list(0, 0, 0), list(0, 1, 2)},
		{chain(7), make([]int, 6), nil},
		{chain(7), make([]int, 12), list(0, 1, 2, 3, 4, 5, 6, 7, 8, 9, 10, 11)},
	} {
		if l, e := ink.Spare(x.palette, x.sequence); !slices.Equal(l, x.want) || e != api.OK {
			t.Errorf("Spare of %v: %v: %v %d, want %v", x.palette, x.sequence, l, e, x.want)
		}
	}
	for i, x := range badSequences() {
		if l, e := ink.Spare(exampleP(), x.sequence); len(l) != 0 || e != x.want {
			t.Errorf("%d: Spare: %v %d, want %d", i, l, e, x.want)
		}
	}
}

// P3.7.
func TestServes(t *testing.T) {
	for _, p := range palettes() {
		for _, sequence := range listsUpTo(len(p.Inks), 2) {
			colours := given(p, sequence)
			for _, sketch := range listsOf(p.Colours) {
				want := api.OK
				if !contains(colours, sketch) {
					want = api.ErrProof
				}
				if e := ink.Serves(p, sketch, sequence); e != want {
					t.Fatalf("Serves of %v: %v, %v: %d, want %d", p, sketch, sequence, e, want)
				}
			}
		}
	}
}

// P3.7: the errors of the sequence come before those of the sketch, and no colours are served by any sequence.
func TestServesErrors(t *testing.T) {
	for i, x := range badLists() {
		for _, sequence := range [][]int{nil, list(0), list(0, 1, 2)} {
			if e := ink.Serves(exampleP(), x.colours, sequence); e != x.want {
				t.Errorf("%d: Serves: %d, want %d", i, e, x.want)
			}
		}
		for j, y := range badSequences() {
			if e := ink.Serves(exampleP(), x.colours, y.sequence); e != y.want {
				t.Errorf("%d, %d: Serves: %d, want %d", i, j, e, y.want)
			}
		}
	}
	for _, sequence := range [][]int{nil, list(2), make([]int, 12)} {
		for _, sketch := range [][]int{nil, list(0)} {
			if e := ink.Serves(exampleP(), sketch, sequence); e != api.OK {
				t.Errorf("Serves of %v, %v: %d", sketch, sequence, e)
			}
		}
		if e := ink.Serves(exampleP(), list(3), sequence); e != api.ErrProof {
			t.Errorf("Serves of 3, %v: %d", sequence, e)
		}
	}
}
