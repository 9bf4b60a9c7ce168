package cross_test

import (
	"math"
	"slices"
	"testing"

	"tusche/api"
	"tusche/cross"
)

// bad is a rule with an error.
type bad struct {
	rule []int
	want api.Errno
}

// badRules are rules that are not valid, with their errors.
func badRules() []bad {
	all := []bad{
		{nil, api.ErrEmpty},
		{list(), api.ErrEmpty},
		{list(0), api.ErrEmpty},
		{list(-1), api.ErrEmpty}, // before the places
		{list(61), api.ErrEmpty},
		{list(0, 1, 2, 3, 4, 5, 6, 7, 8), api.ErrMany},
		{make([]int, 9), api.ErrMany},
		{make([]int, 100000), api.ErrMany},
		{slices.Repeat(list(-1), 9), api.ErrMany},
		{list(0, 0), api.ErrOrder},
		{list(1, 0), api.ErrOrder},
		{list(60, 0), api.ErrOrder},
		{list(60, 60), api.ErrOrder},
		{list(0, 2, 1), api.ErrOrder},
		{list(0, 1, 2, 3, 4, 5, 6, 6), api.ErrOrder},
		{list(0, 1, 2, 3, 4, 5, 6, 61), api.ErrBounds},
		{list(-1, -1), api.ErrBounds}, // the first place with an error
		{list(0, -1), api.ErrBounds},  // out of range before it is not greater
		{list(61, 61), api.ErrBounds},
		{list(61, 0), api.ErrBounds},
		{list(3, 3, 61), api.ErrOrder},
		{list(3, 61, 3), api.ErrBounds},
		{list(3, 2, -1), api.ErrOrder},
		{list(3, -1, 2), api.ErrBounds},
		{list(-1, 5, 5), api.ErrBounds},
	}
	for _, place := range list(-1, 61, -61, math.MinInt, math.MaxInt) {
		all = append(all, bad{list(place, 5), api.ErrBounds}, bad{list(5, place), api.ErrBounds}, bad{list(5, 7, place, 60), api.ErrBounds})
	}
	return all
}

// P11.1 to P11.7: all functions return the error of Check, before all others.
func TestBadRules(t *testing.T) {
	for _, x := range badRules() {
		for _, q := range []question{{rule: x.rule}, {rule: x.rule, shift: 61, width: -1, seen: list(-1), most: 61, size: 1}, {rule: x.rule, shift: 1, width: 5, seen: list(0, 1), most: 9, size: 40}} {
			q.crosses = 4
			a := ask(q)
			for _, j := range list(0, 1, 2, 3, 4, 5, 6, 8, 9) {
				if a.errors[j] != x.want {
					t.Errorf("function %d of %v: %d, want %d", j, x.rule, a.errors[j], x.want)
				}
			}
			a.checkNothing(t, q)
		}
	}
}

// P11.1: rules of all sizes, and the smallest and the greatest places.
func TestCheckEdges(t *testing.T) {
	all := [][]int{list(0, 1), list(0, 60), list(59, 60), list(0, 1, 2, 3, 4, 5, 6, 7), list(53, 54, 55, 56, 57, 58, 59, 60), list(0, 30, 60)}
	for _, rule := range append(all, rules()...) {
		if e := cross.Check(rule); e != api.OK {
			t.Errorf("Check of %v: %d", rule, e)
		}
	}
}

// P11.1: all lists of three numbers near the limits.
func TestCheckOrder(t *testing.T) {
	numbers := list(-1, 0, 1, 2, 59, 60, 61)
	for _, a := range numbers {
		for _, b := range numbers {
			for _, c := range numbers {
				want := api.OK
				for i, place := range list(a, b, c) {
					switch {
					case want != api.OK:
					case place < 0 || place > 60:
						want = api.ErrBounds
					case i > 0 && place <= list(a, b, c)[i-1]:
						want = api.ErrOrder
					}
				}
				if e := cross.Check(list(a, b, c)); e != want {
					t.Errorf("Check of %d, %d, %d: %d, want %d", a, b, c, e, want)
				}
			}
		}
	}
}
