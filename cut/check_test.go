package cut_test

import (
	"math"
	"slices"
	"testing"

	"tusche/api"
	"tusche/cut"
)

// bad is a layout with an error.
type bad struct {
	layout cut.Layout
	want   api.Errno
}

// badLayouts are layouts that are not valid, with their errors.
func badLayouts() []bad {
	labels := func(size int) []cut.Label { return slices.Repeat([]cut.Label{{W: 1, H: 1}}, size) }
	all := []bad{
		{cut.Layout{}, api.ErrSize},
		{with(sheet(0, 0), labels(11)...), api.ErrSize}, // the size of the sheet comes before all other errors
		{with(sheet(13, 12), labels(11)...), api.ErrSize},
		{with(sheet(12, 13), cut.Label{X: 9, W: 9, H: 9}), api.ErrSize},
		{with(sheet(4, 4), labels(11)...), api.ErrMany},
		{with(sheet(4, 4), labels(5000)...), api.ErrMany},
		{with(sheet(4, 4), slices.Repeat([]cut.Label{{W: 0, H: 9}}, 11)...), api.ErrMany}, // before what is wrong with a label
		{with(sheet(4, 4), labels(10)...), api.ErrClash},
		{sheet(4, 4, 9, 9, 0, 9), api.ErrSize}, // the size of a label before its place
		{sheet(4, 4, 9, 9, 9, 0), api.ErrSize},
		{sheet(4, 4, 0, 0, 1, 1, 0, 0, 0, 1, 4, 0, 1, 1), api.ErrSize}, // the first label with an error decides
		{sheet(4, 4, 0, 0, 1, 1, 4, 0, 1, 1, 0, 0, 0, 1), api.ErrOver},
		{sheet(4, 4, 0, 0, 2, 2, 0, 0, 2, 2, 0, 0, 0, 0), api.ErrSize}, // each label before two labels
		{sheet(4, 4, 0, 0, 2, 2, 0, 0, 2, 2, 3, 3, 2, 1), api.ErrOver},
		{sheet(5, 3, 0, 0, 5, 4), api.ErrOver},
		{sheet(5, 3, 0, 0, 6, 3), api.ErrOver},
		{sheet(5, 3, 2, 0, 4, 1), api.ErrOver},
		{sheet(5, 3, 0, 2, 1, 2), api.ErrOver},
		{sheet(5, 3, 5, 0, 1, 1), api.ErrOver},
		{sheet(5, 3, 0, 3, 1, 1), api.ErrOver},
		{sheet(5, 3, -1, 0, 2, 1), api.ErrOver},
		{sheet(5, 3, 0, -1, 1, 2), api.ErrOver},
		{sheet(4, 4, math.MaxInt, 0, math.MaxInt, 1), api.ErrOver}, // their sum is no int
		{sheet(4, 4, 0, math.MaxInt, 1, math.MaxInt), api.ErrOver},
		{sheet(4, 4, math.MinInt, 0, math.MaxInt, 1), api.ErrOver},
		{sheet(4, 4, math.MaxInt-3, 0, 5, 1), api.ErrOver},
		{sheet(4, 4, 0, math.MinInt, 1, 1), api.ErrOver},
		{sheet(4, 4, 1, 1, 2, 2, 1, 1, 2, 2), api.ErrClash},
		{sheet(4, 4, 0, 0, 4, 4, 1, 2, 1, 1), api.ErrClash},
		{sheet(4, 4, 1, 2, 1, 1, 0, 0, 4, 4), api.ErrClash},
		{sheet(4, 4, 1, 0, 1, 4, 0, 1, 4, 1), api.ErrClash}, // a cross: no corner is within the other one
		{sheet(4, 4, 0, 0, 1, 1, 3, 3, 1, 1, 0, 0, 2, 2), api.ErrClash},
	}
	for _, n := range list(0, -1, 13, math.MinInt, math.MaxInt) {
		all = append(all, bad{sheet(n, 3), api.ErrSize}, bad{sheet(3, n), api.ErrSize})
	}
	for _, n := range list(0, -1, math.MinInt) {
		all = append(all, bad{sheet(4, 4, 1, 1, n, 1), api.ErrSize}, bad{sheet(4, 4, 1, 1, 1, n), api.ErrSize})
	}
	return all
}

// P6.1 to P6.3, P6.5: all functions return the error of Check.
func TestBadLayouts(t *testing.T) {
	for i, x := range badLayouts() {
		q := question{layout: x.layout, plan: cuts(up(1)), w: 1, h: 1} // no kinds: the layout comes first
		a := ask(q)
		for j, e := range [...]api.Errno{a.errors[0], a.errors[1], a.errors[2], a.errors[3], a.errors[4], a.errors[7]} {
			if e != x.want {
				t.Errorf("%d: function %d of %v: %d, want %d", i, j, x.layout, e, x.want)
			}
		}
		a.checkNothing(t, q)
	}
}

// P6.1: the smallest and the greatest layouts, and labels that touch each other.
func TestCheckEdges(t *testing.T) {
	for _, l := range append(layouts(),
		sheet(1, 1), sheet(12, 12), sheet(1, 12), sheet(12, 1), sheet(12, 12, 0, 0, 12, 12), sheet(12, 12, 11, 11, 1, 1), sheet(1, 1, 0, 0, 1, 1), sheet(5, 3, 4, 2, 1, 1),
		sheet(2, 2, 0, 0, 1, 1, 1, 0, 1, 1, 0, 1, 1, 1, 1, 1, 1, 1), sheet(4, 4, 1, 1, 2, 2, 0, 0, 4, 1, 3, 1, 1, 3, 0, 1, 1, 2)) {
		if e := cut.Check(l); e != api.OK {
			t.Errorf("Check of %v: %d", l, e)
		}
	}
}

// P6.1: two labels of any places and sizes clash just if they have a unit square in common.
func TestClash(t *testing.T) {
	var labels []cut.Label
	for x := range 4 {
		for y := range 4 {
			for w := 1; x+w <= 4; w++ {
				for h := 1; y+h <= 4; h++ {
					labels = append(labels, cut.Label{X: x, Y: y, W: w, H: h})
				}
			}
		}
	}
	for _, a := range labels {
		for _, b := range labels {
			want := api.OK
			if len(squaresOf(with(sheet(4, 4), a)).in(b)) > 0 {
				want = api.ErrClash
			}
			if e := cut.Check(with(sheet(4, 4), a, b)); e != want {
				t.Errorf("Check of %v, %v: %d, want %d", a, b, e, want)
			}
		}
	}
}

// P6.1: any numbers, by true sums.
func TestCheckAnyNumbers(t *testing.T) {
	numbers := list(math.MinInt, math.MinInt+1, -13, -1, 0, 1, 2, 3, 4, 12, 13, math.MaxInt-3, math.MaxInt)
	fits := func(from, length int) bool {
		return from >= 0 && from <= 4 && length <= 4 && from+length <= 4
	}
	for _, x := range numbers {
		for _, y := range numbers {
			for _, w := range numbers {
				for _, h := range numbers {
					want := api.OK
					if w < 1 || h < 1 {
						want = api.ErrSize
					} else if !fits(x, w) || !fits(y, h) {
						want = api.ErrOver
					}
					if e := cut.Check(sheet(4, 4, x, y, w, h)); e != want {
						t.Fatalf("Check of %d, %d, %d, %d: %d, want %d", x, y, w, h, e, want)
					}
				}
			}
		}
	}
}

// P6.1: by unit squares.
func TestCuts(t *testing.T) {
	for _, l := range layouts() {
		want := squaresOf(l).cuts(whole(l))
		if got, e := cut.Cuts(l); !slices.Equal(got, want) || e != api.OK {
			t.Fatalf("Cuts of %v: %v %d, want %v", l, got, e, want)
		}
	}
}

// P6.1: those with Up first, each kind by ascending At; none at an edge, none with labels on one side only.
func TestCutsInOrder(t *testing.T) {
	for _, x := range []struct {
		layout cut.Layout
		want   []cut.Cut
	}{
		{sheet(12, 12), nil},
		{sheet(12, 12, 3, 3, 2, 2), nil},
		{sheet(12, 12, 0, 0, 1, 1, 11, 11, 1, 1), cuts(up(1), up(2), up(3), up(4), up(5), up(6), up(7), up(8), up(9), up(10), up(11), flat(1), flat(2), flat(3), flat(4), flat(5), flat(6), flat(7), flat(8), flat(9), flat(10), flat(11))},
		{drawn("AB", "CD"), cuts(up(1), flat(1))},
		{drawn(".A.B.", ".....", ".C.D."), cuts(up(2), up(3), flat(1), flat(2))},
		{drawn("AAB", "C.B", "CDD"), nil},
		{sheet(4, 2, 0, 0, 1, 2, 1, 0, 2, 1, 3, 0, 1, 2), cuts(up(1), up(3))},
		{drawn("A.B", "..C"), cuts(up(1), up(2), flat(1))},
	} {
		if got, e := cut.Cuts(x.layout); !slices.Equal(got, x.want) || e != api.OK {
			t.Errorf("Cuts of %v: %v %d, want %v", x.layout, got, e, x.want)
		}
	}
}
