package ink_test

import (
	"math"
	"slices"
	"testing"

	"tusche/api"
	"tusche/ink"
)

// P3.5.
func TestEver(t *testing.T) {
	for _, p := range palettes() {
		fewest := needs(p)
		l := ever(t, p)
		if !slices.IsSorted(l) || len(l) != len(fewest) {
			t.Fatalf("Ever of %v: %v, want the %d colours of %v", p, l, len(fewest), fewest)
		}
		for _, colour := range l {
			if _, is := fewest[colour]; !is {
				t.Fatalf("Ever of %v: %v, not the colours of %v", p, l, fewest)
			}
		}
	}
}

// P3.5: only the paper, all colours after 6 stones, colours that no sequence gives.
func TestEverEdges(t *testing.T) {
	for _, x := range []struct {
		palette ink.Palette
		want    []int
	}{
		{palette(2, list(0, 1)), list(0)},
		{palette(2, list(0, 0)), list(0)},
		{palette(2, list(1, 1)), list(0, 1)},
		{palette(4, list(0, 3, 3, 1), list(0, 0, 0, 0)), list(0)},
		{palette(4, list(2, 1, 0, 1)), list(0, 2)},
		{palette(7, list(6, 5, 4, 3, 2, 1, 0)), list(0, 6)},
		{chain(7), list(0, 1, 2, 3, 4, 5, 6)},
		{full(), list(0, 1, 2, 3, 4, 5, 6)},
		{without2(), list(0, 1, 2, 3)},
	} {
		if l, e := ink.Ever(x.palette); !slices.Equal(l, x.want) || e != api.OK {
			t.Errorf("Ever of %v: %v %d, want %v", x.palette, l, e, x.want)
		}
	}
}

// P3.5.
func TestExcludes(t *testing.T) {
	for _, p := range palettes() {
		for _, colours := range listsOf(p.Colours) {
			for colour := range p.Colours {
				want := api.OK
				if !isClosed(p, colours) {
					want = api.ErrOpen
				} else if slices.Contains(colours, colour) {
					want = api.ErrProof
				}
				if e := ink.Excludes(p, colours, colour); e != want {
					t.Fatalf("Excludes of %v: %v and %d: %d, want %d", p, colours, colour, e, want)
				}
			}
		}
	}
}

// P3.5: the order of the errors.
func TestExcludesErrors(t *testing.T) {
	for _, colour := range list(5, -1, math.MinInt, math.MaxInt) {
		for _, colours := range [][]int{nil, list(0, 1, 2, 3), list(5), list(1, 0)} {
			if e := ink.Excludes(without2(), colours, colour); e != api.ErrBounds {
				t.Errorf("Excludes of %v and %d: %d", colours, colour, e)
			}
		}
	}
	for i, x := range badLists() {
		for colour := range 5 {
			if e := ink.Excludes(without2(), x.colours, colour); e != x.want {
				t.Errorf("%d: Excludes of %v and %d: %d, want %d", i, x.colours, colour, e, x.want)
			}
		}
	}
	for _, x := range []struct {
		colours []int
		colour  int
		want    api.Errno
	}{
		{nil, 4, api.ErrOpen},
		{list(4), 3, api.ErrOpen}, // closed, but for the paper
		{list(0), 0, api.ErrOpen},
		{list(0, 1, 2), 4, api.ErrOpen},
		{list(0, 1, 2), 2, api.ErrOpen}, // it contains the colour, too
		{list(1, 2, 3), 4, api.ErrOpen},
		{list(0, 1, 2, 3), 3, api.ErrProof},
		{list(0, 1, 2, 3), 0, api.ErrProof},
		{list(0, 1, 2, 3, 4), 4, api.ErrProof},
		{list(0, 1, 2, 3), 4, api.OK},
	} {
		if e := ink.Excludes(without2(), x.colours, x.colour); e != x.want {
			t.Errorf("Excludes of %v and %d: %d, want %d", x.colours, x.colour, e, x.want)
		}
	}
	if e := ink.Excludes(palette(3, list(0, 2, 2)), list(0), 2); e != api.OK {
		t.Errorf("Excludes of the paper and 2: %d", e)
	}
	if e := ink.Excludes(palette(3, list(0, 2, 2)), list(0, 2), 1); e != api.OK { // closed, though more than what is given
		t.Errorf("Excludes of 0, 2 and 1: %d", e)
	}
}

// P3.6.
func TestStones(t *testing.T) {
	for _, p := range palettes() {
		fewest := needs(p)
		for colour := range p.Colours {
			least, is := fewest[colour]
			want := api.OK
			if !is {
				want = api.ErrLost
			}
			if n, e := ink.Stones(p, colour); n != least || e != want {
				t.Fatalf("Stones of %v: %d: %d %d, want %d %d", p, colour, n, e, least, want)
			}
		}
	}
}

// P3.6.
func TestStonesEdges(t *testing.T) {
	for colour := range ink.MaxColours {
		if n, e := ink.Stones(chain(7), colour); n != colour || e != api.OK {
			t.Errorf("Stones of a chain: %d: %d %d", colour, n, e)
		}
	}
	if n, e := ink.Stones(without2(), 4); n != 0 || e != api.ErrLost {
		t.Errorf("Stones of P without the ink 2: 4: %d %d", n, e)
	}
	for _, colour := range list(5, -1, math.MinInt, math.MaxInt) {
		if n, e := ink.Stones(exampleP(), colour); n != 0 || e != api.ErrBounds {
			t.Errorf("Stones of %d: %d %d", colour, n, e)
		}
	}
}
