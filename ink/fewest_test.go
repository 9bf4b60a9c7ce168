package ink_test

import (
	"slices"
	"testing"

	"tusche/api"
	"tusche/ink"
)

// fewest returns the first one of the shortest sequences that serve a sketch, of some sequences, shorter and smaller ones first, with what they give.
func fewest(sequences, given [][]int, sketch []int) ([]int, bool) {
	for i, sequence := range sequences {
		if contains(given[i], sketch) {
			return sequence, true
		}
	}
	return nil, false
}

// P3.6: of all sequences with up to one stone more than Fewest may need.
func TestFewest(t *testing.T) {
	for _, p := range palettes() {
		size := p.Colours
		if len(p.Inks) > 3 { // with more inks, as many stones as it may need
			size = p.Colours - 1
		}
		sequences := listsUpTo(len(p.Inks), size)
		var given [][]int
		for _, sequence := range sequences {
			given = append(given, gives(t, p, sequence))
		}
		for _, sketch := range listsOf(p.Colours) {
			first, is := fewest(sequences, given, sketch)
			want := api.OK
			if !is {
				want = api.ErrLost
			}
			if l, e := ink.Fewest(p, sketch); !slices.Equal(l, first) || e != want {
				t.Fatalf("Fewest of %v: %v: %v %d, want %v %d", p, sketch, l, e, first, want)
			}
		}
	}
}

// P3.6: sketches that need no stone, or 6, and which of several sequences is the first one.
func TestFewestEdges(t *testing.T) {
	same := palette(3, list(0, 0, 0), list(1, 1, 1), list(1, 1, 2), list(2, 1, 2), list(2, 2, 2))
	for _, x := range []struct {
		palette      ink.Palette
		sketch, want []int
		e            api.Errno
	}{
		{exampleP(), nil, nil, api.OK},
		{exampleP(), list(0), nil, api.OK},
		{exampleP(), list(0, 1, 2, 3, 4), list(0, 1, 2), api.OK},
		{without2(), list(0, 1, 2, 3), list(0, 1), api.OK},
		{without2(), list(1, 2, 3, 4), nil, api.ErrLost},
		{without2(), list(4), nil, api.ErrLost},
		{chain(7), list(6), make([]int, 6), api.OK},
		{chain(7), list(0, 5), make([]int, 5), api.OK},
		{full(), list(1, 2, 3, 4, 5, 6), list(0, 1, 2, 3, 4, 5), api.OK},
		{same, list(1), list(1), api.OK},
		{same, list(2), list(3), api.OK},
		{same, list(1, 2), list(1, 3), api.OK},
	} {
		if l, e := ink.Fewest(x.palette, x.sketch); !slices.Equal(l, x.want) || e != x.e {
			t.Errorf("Fewest of %v: %v: %v %d, want %v %d", x.palette, x.sketch, l, e, x.want, x.e)
		}
	}
	for i, x := range badLists() {
		for _, p := range []ink.Palette{exampleP(), without2()} { // also if no sequence gives the colours
			if l, e := ink.Fewest(p, x.colours); len(l) != 0 || e != x.want {
				t.Errorf("%d: Fewest: %v %d, want %d", i, l, e, x.want)
			}
		}
	}
}

// orders returns all orders of stones, in ascending order, equal ones once.
func orders(stones []int) [][]int {
	var all [][]int
	for _, places := range lists(len(stones), len(stones)) {
		var order []int
		for _, at := range places {
			order = append(order, stones[at])
		}
		sorted := slices.Sorted(slices.Values(places))
		if len(slices.Compact(sorted)) == len(stones) {
			all = append(all, order)
		}
	}
	slices.SortFunc(all, slices.Compare[[]int])
	return slices.CompactFunc(all, slices.Equal[[]int])
}

// checkOrder checks what Order returns.
func checkOrder(t *testing.T, p ink.Palette, stones []int) {
	t.Helper()
	var first []int
	most := 0
	for _, order := range orders(stones) {
		if n := len(gives(t, p, order)); n > most {
			first, most = order, n
		}
	}
	if l, n, e := ink.Order(p, stones); !slices.Equal(l, first) || n != most || e != api.OK {
		t.Fatalf("Order of %v: %v: %v %d %d, want %v %d", p, stones, l, n, e, first, most)
	}
}

// P3.8.
func TestOrder(t *testing.T) {
	for _, p := range palettes() {
		for _, stones := range listsUpTo(len(p.Inks), 3) {
			checkOrder(t, p, stones)
		}
	}
	for i, p := range bigPalettes() {
		inks := len(p.Inks)
		checkOrder(t, p, list(inks-1, 0, inks/2, i%inks))
		checkOrder(t, p, list(i%inks, inks/2, 0, inks-1, inks/3))
	}
	for _, p := range bigPalettes()[:10] {
		inks := len(p.Inks)
		checkOrder(t, p, list(5%inks, 4%inks, 3%inks, 2%inks, 1%inks, 0))
	}
}

// P3.8: no stones, equal ones, 6 of them, and errors.
func TestOrderEdges(t *testing.T) {
	steps := palette(7, list(0, 2, 2, 3, 4, 5, 6), list(1, 1, 2, 3, 4, 5, 6), list(0, 1, 2, 4, 4, 5, 6), list(0, 1, 3, 3, 4, 5, 6), list(0, 1, 2, 3, 4, 6, 6), list(0, 1, 2, 3, 5, 5, 6))
	for _, x := range []struct {
		palette      ink.Palette
		stones, want []int
		colours      int
		e            api.Errno
	}{
		{exampleP(), nil, nil, 1, api.OK},
		{exampleP(), list(2), list(2), 2, api.OK},
		{exampleP(), list(0, 0), list(0, 0), 2, api.OK},
		{exampleP(), list(2, 0, 2), list(0, 2, 2), 3, api.OK},
		{chain(7), make([]int, 6), make([]int, 6), 7, api.OK},
		{full(), list(5, 3, 1, 0, 2, 4), list(0, 1, 2, 3, 4, 5), 7, api.OK},
		{steps, list(0, 1, 2, 3, 4, 5), list(1, 0, 3, 2, 5, 4), 7, api.OK},
		{steps, list(3, 0, 1), list(1, 0, 3), 4, api.OK},
		{exampleP(), make([]int, 7), nil, 0, api.ErrMany},
		{exampleP(), slices.Repeat(list(9), 7), nil, 0, api.ErrMany},
		{exampleP(), make([]int, 5000), nil, 0, api.ErrMany},
	} {
		if l, n, e := ink.Order(x.palette, x.stones); !slices.Equal(l, x.want) || n != x.colours || e != x.e {
			t.Errorf("Order of %v: %v: %v %d %d, want %v %d %d", x.palette, x.stones, l, n, e, x.want, x.colours, x.e)
		}
	}
	for i, x := range badSequences() {
		want := api.ErrNone
		if len(x.sequence) > ink.MaxOrder {
			want = api.ErrMany
		}
		if l, n, e := ink.Order(exampleP(), x.sequence); len(l) != 0 || n != 0 || e != want {
			t.Errorf("%d: Order: %v %d %d, want %d", i, l, n, e, want)
		}
	}
}
