package cross_test

import (
	"math"
	"slices"
	"testing"

	"tusche/api"
	"tusche/cross"
)

// show is the chapter's definition: what is seen on a piece.
func show(rule []int, width, shift int) []int {
	var seen []int
	for place := shift; place <= shift+width; place++ {
		if slices.Contains(rule, place) {
			seen = append(seen, place-shift)
		}
	}
	return seen
}

// P11.4, M3: at all shifts, by what is seen at each of them.
func TestLocate(t *testing.T) {
	for number, rule := range append(mixedRules(), clearRules()...) {
		for _, width := range list(number%61, (number*7+3)%20, (number*3)%7) {
			var all [121][]int
			for i := range all {
				all[i] = show(rule, width, i-60)
			}
			for i, seen := range all {
				var want []int
				for k, other := range all {
					if slices.Equal(seen, other) {
						want = append(want, k-60)
					}
				}
				if l := locate(t, rule, width, seen); !slices.Equal(l, want) {
					t.Fatalf("Locate on %v, width %d: %v: %v, want %v with %d", rule, width, seen, l, want, i-60)
				}
			}
		}
	}
}

// P11.4, M3: everything that can be seen on small pieces.
func TestLocateAll(t *testing.T) {
	for number, rule := range smallRules() {
		if number%9 != 0 {
			continue
		}
		for width := range 5 {
			for set := range 2 << width {
				var seen, want []int
				for place := range width + 1 {
					if set>>place&1 == 1 {
						seen = append(seen, place)
					}
				}
				for shift := -60; shift <= 60; shift++ {
					if slices.Equal(show(rule, width, shift), seen) {
						want = append(want, shift)
					}
				}
				if l := locate(t, rule, width, seen); !slices.Equal(l, want) {
					t.Fatalf("Locate on %v, width %d: %v: %v, want %v", rule, width, seen, l, want)
				}
			}
		}
	}
}

// P11.4: the smallest and the greatest widths and shifts, and pieces without crosses.
func TestLocateEdges(t *testing.T) {
	var none []int // where the piece lies before or behind all crosses, or between them
	for shift := -60; shift <= 60; shift++ {
		if shift < 0 || shift > 0 && shift < 60 {
			none = append(none, shift)
		}
	}
	for _, x := range []struct {
		rule  []int
		width int
		seen  []int
		want  []int
	}{
		{list(0, 60), 0, nil, none},
		{list(0, 60), 0, list(0), list(0, 60)},
		{list(0, 60), 60, list(60), list(-60)}, // the other one is not seen
		{list(0, 60), 60, list(0), list(60)},
		{list(0, 60), 60, list(0, 60), list(0)},
		{list(0, 60), 60, nil, nil},
		{list(0, 60), 59, nil, list(-60)},
		{list(0, 60), 1, list(0), list(0, 60)},
		{list(0, 60), 1, list(1), list(-1, 59)},
		{list(0, 60), 1, list(0, 1), nil},
		{list(0, 1), 60, list(59, 60), list(-59)},
		{list(0, 1), 60, list(60), list(-60)},
		{list(0, 1), 60, list(0), list(1)},
		{list(1, 2), 60, list(60), list(-59)},
		{list(1, 2), 60, nil, append(list(-60), shifts(3, 60)...)},
		{list(58, 60), 2, list(0, 2), list(58)},
		{list(58, 60), 2, list(1), list(57, 59)},
		{list(58, 60), 2, list(0, 1), nil},
		{list(0, 1, 2, 3, 4, 5, 6, 7), 2, list(0, 1, 2), list(0, 1, 2, 3, 4, 5)},
		{list(0, 1, 2, 3, 4, 5, 6, 7), 2, list(0, 1), list(6)},
		{list(0, 1, 2, 3, 4, 5, 6, 7), 2, list(1, 2), list(-1)},
		{list(0, 1, 2, 3, 4, 5, 6, 7), 2, list(0, 2), nil},
	} {
		if l := locate(t, x.rule, x.width, x.seen); !slices.Equal(l, x.want) {
			t.Errorf("Locate on %v, width %d: %v: %v, want %v", x.rule, x.width, x.seen, l, x.want)
		}
	}
}

// shifts returns all numbers from one to another one.
func shifts(from, to int) []int {
	var all []int
	for number := from; number <= to; number++ {
		all = append(all, number)
	}
	return all
}

// P11.4: widths that are none, and the first element of seen with an error.
func TestLocateErrors(t *testing.T) {
	rule := list(0, 1, 4, 6)
	for _, x := range []struct {
		width int
		seen  []int
		want  api.Errno
	}{
		{-1, nil, api.ErrBounds},
		{61, nil, api.ErrBounds},
		{math.MinInt, nil, api.ErrBounds},
		{math.MaxInt, nil, api.ErrBounds},
		{-1, list(1, 1), api.ErrBounds}, // before the elements
		{61, list(1, 0), api.ErrBounds},
		{3, list(-1), api.ErrBounds},
		{3, list(4), api.ErrBounds},
		{3, list(0, 4), api.ErrBounds},
		{3, list(math.MinInt), api.ErrBounds},
		{3, list(math.MaxInt), api.ErrBounds},
		{3, list(1, math.MinInt), api.ErrBounds},
		{0, list(1), api.ErrBounds},
		{0, list(0, 0), api.ErrOrder},
		{60, list(61), api.ErrBounds},
		{60, list(60, 60), api.ErrOrder},
		{3, list(1, 1), api.ErrOrder},
		{3, list(2, 1), api.ErrOrder},
		{3, list(0, 3, 2), api.ErrOrder},
		{3, list(0, 1, 2, 3, 3), api.ErrOrder},
		{3, list(0, 1, 2, 3, 4), api.ErrBounds},
		{3, list(1, 1, 4), api.ErrOrder}, // the first element with an error
		{3, list(1, 4, 4), api.ErrBounds},
		{3, list(1, -1), api.ErrBounds}, // not from 0 to 3 before it is not greater
		{3, list(4, 4), api.ErrBounds},
		{60, make([]int, 100000), api.ErrOrder},
	} {
		if l, e := cross.Locate(rule, x.width, x.seen); len(l) != 0 || e != x.want {
			t.Errorf("width %d: %v: %v %d, want %d", x.width, x.seen[:min(9, len(x.seen))], l, e, x.want)
		}
	}
}
