package weigh_test

import (
	"math"
	"slices"
	"testing"

	"tusche/api"
	"tusche/weigh"
)

// badSet is a set of weights with an error.
type badSet struct {
	weights []int
	want    api.Errno
}

// badSets are sets of weights that are not valid, with their errors.
func badSets() []badSet {
	all := []badSet{
		{nil, api.ErrEmpty},
		{list(), api.ErrEmpty},
		{slices.Repeat(list(1), 8), api.ErrMany},
		{make([]int, 8), api.ErrMany}, // before the weights
		{list(8, 7, 6, 5, 4, 3, 2, 1), api.ErrMany},
		{make([]int, 100000), api.ErrMany},
		{list(2, 1), api.ErrOrder},
		{list(2000, 1999), api.ErrOrder},
		{list(1, 3, 2), api.ErrOrder},
		{list(1, 2, 3, 4, 5, 7, 6), api.ErrOrder},
		{list(5, 0), api.ErrSize}, // out of range before it is smaller
		{list(5, -1), api.ErrSize},
		{list(0, -1), api.ErrSize}, // the first weight with an error
		{list(2001, 1), api.ErrSize},
		{list(2, 1, 2001), api.ErrOrder},
		{list(2, 2001, 1), api.ErrSize},
		{list(3, 2, 0), api.ErrOrder},
		{list(3, 0, 2), api.ErrSize},
	}
	for _, weight := range list(0, -1, 2001, -2000, math.MinInt, math.MaxInt) {
		all = append(all, badSet{list(weight), api.ErrSize}, badSet{list(5, weight), api.ErrSize}, badSet{list(1, 2, 3, 4, 5, 6, weight), api.ErrSize})
	}
	return all
}

// P12.1, P12.2: Check, Loads, Lay, Balances and Reach return the error of Check, before all others.
func TestBadSets(t *testing.T) {
	for _, x := range badSets() {
		for _, q := range []question{{weights: x.weights}, {weights: x.weights, laying: list(2), load: math.MinInt}, {weights: x.weights, laying: list(1, 1), load: 4}} {
			a := ask(q)
			for _, j := range list(0, 1, 2, 3, 4) {
				if a.errors[j] != x.want {
					t.Errorf("function %d of %v: %d, want %d", j, x.weights, a.errors[j], x.want)
				}
			}
			a.checkNothing(t, q)
		}
	}
}

// P12.1: sets of all sizes, equal weights, and the smallest and the greatest ones.
func TestCheckEdges(t *testing.T) {
	all := [][]int{list(1), list(2000), list(1, 1), list(1, 2000), list(2000, 2000), slices.Repeat(list(1), 7), slices.Repeat(list(2000), 7), list(1, 2, 3, 4, 5, 6, 7), list(1, 1, 2, 2, 1999, 2000, 2000)}
	for _, weights := range append(all, sets()...) {
		if e := weigh.Check(weights); e != api.OK {
			t.Errorf("Check of %v: %d", weights, e)
		}
	}
}

// P12.1: all lists of three numbers near the limits.
func TestCheckOrder(t *testing.T) {
	numbers := list(-1, 0, 1, 2, 1999, 2000, 2001)
	for _, a := range numbers {
		for _, b := range numbers {
			for _, c := range numbers {
				want := api.OK
				for i, weight := range list(a, b, c) {
					switch {
					case want != api.OK:
					case weight <= 0 || weight >= 2001:
						want = api.ErrSize
					case i > 0 && list(a, b, c)[i-1] > weight:
						want = api.ErrOrder
					}
				}
				if e := weigh.Check(list(a, b, c)); e != want {
					t.Errorf("Check of %d, %d, %d: %d, want %d", a, b, c, e, want)
				}
			}
		}
	}
}

// badTrial is a plan with an error.
type badTrial struct {
	stones int
	plan   []weigh.Weighing
	want   api.Errno
}

// badTrials are plans that are not valid, with their errors.
func badTrials() []badTrial {
	on := func(left, right []int) []weigh.Weighing { return plan(weigh.Weighing{Left: left, Right: right}) }
	good, empty := against(0, 1), weigh.Weighing{}
	all := []badTrial{
		{3, plan(good, good, good, good), api.ErrMany},
		{3, make([]weigh.Weighing, 4), api.ErrMany}, // before the weighings
		{1, make([]weigh.Weighing, 100000), api.ErrMany},
		{3, plan(empty), api.ErrEmpty},
		{3, plan(good, good, empty), api.ErrEmpty},
		{3, on(list(0), nil), api.ErrEmpty},
		{3, on(nil, list(0)), api.ErrEmpty},
		{3, on(list(), list(1, 1)), api.ErrEmpty}, // before they have not as many, and before the stones
		{3, on(list(-1, -1), list()), api.ErrEmpty},
		{3, on(list(0), list(1, 2)), api.ErrForm},
		{3, on(list(0, 1), list(2)), api.ErrForm},
		{3, on(list(9), list(0, 0)), api.ErrForm}, // before the stones
		{3, on(list(0, 1), make([]int, 100000)), api.ErrForm},
		{3, on(list(3), list(0)), api.ErrNone},
		{3, on(list(0), list(3)), api.ErrNone},
		{3, on(list(-1), list(0)), api.ErrNone},
		{3, on(list(0), list(-1)), api.ErrNone},
		{13, on(list(0), list(13)), api.ErrNone},
		{13, on(list(math.MaxInt), list(12)), api.ErrNone},
		{13, on(list(12), list(math.MinInt)), api.ErrNone},
		{1, on(list(0), list(1)), api.ErrNone},
		{1, on(list(0), list(0)), api.ErrAgain},
		{4, on(list(1, 0), list(2, 3)), api.ErrOrder},
		{4, on(list(0, 0), list(2, 3)), api.ErrOrder},
		{4, on(list(0, 1), list(3, 2)), api.ErrOrder},
		{4, on(list(0, 1), list(2, 2)), api.ErrOrder},
		{4, on(list(0, 1), list(1, 2)), api.ErrAgain},
		{4, on(list(0, 1), list(2, 1)), api.ErrOrder}, // before it lies on both pans
		{4, on(list(0, 3), list(2, 3)), api.ErrAgain},
		{4, on(list(0, 1), list(0, 1)), api.ErrAgain},
		{4, on(list(0, 1), list(0, 4)), api.ErrAgain}, // the first stone with an error
		{4, on(list(0, 1), list(4, 0)), api.ErrNone},
		{4, on(list(1, 0), list(4, 5)), api.ErrOrder}, // the left pan first
		{4, on(list(0, 4), list(0, 0)), api.ErrNone},
		{4, on(list(2, -1), list(2, 3)), api.ErrNone}, // no stone before it is not greater
		{4, on(list(0, 4), list(1, 2)), api.ErrNone},
		{5, on(list(0, 1, 1), list(1, 9, 9)), api.ErrOrder},
		{5, on(list(0, 1, 2), list(3, 4, 3)), api.ErrOrder},
		{5, on(list(0, 1, 2), list(3, 0, 4)), api.ErrOrder},
		{13, on(make([]int, 100000), make([]int, 100000)), api.ErrOrder},
		{3, plan(against(0, 3), empty), api.ErrNone}, // the first weighing with an error
		{3, plan(empty, against(0, 3)), api.ErrEmpty},
		{3, plan(good, against(2, 2), weigh.Weighing{Left: list(0), Right: list(1, 2)}), api.ErrAgain},
	}
	for _, stones := range list(0, -1, 14, -13, math.MinInt, math.MaxInt) {
		all = append(all, badTrial{stones, nil, api.ErrSize}, badTrial{stones, plan(good), api.ErrSize}, badTrial{stones, make([]weigh.Weighing, 4), api.ErrSize})
	}
	return all
}

// P12.4 to P12.6: CheckPlan, Shows, Twins and Left return the error of CheckPlan, before all others.
func TestBadTrials(t *testing.T) {
	for _, x := range badTrials() {
		for _, q := range []question{{odd: 0}, {odd: -1, way: 2, shown: list(2)}, {odd: 0, way: 1, shown: make([]int, len(x.plan))}} {
			q.stones, q.plan = x.stones, x.plan
			a := ask(q)
			for _, j := range list(7, 8, 9, 10) {
				if a.errors[j] != x.want {
					t.Errorf("function %d of %d %v: %d, want %d", j, x.stones, x.plan[:min(4, len(x.plan))], a.errors[j], x.want)
				}
			}
			a.checkNothing(t, q)
		}
	}
}

// P12.4: plans that are valid, also the longest ones, and the fullest pans.
func TestCheckPlanEdges(t *testing.T) {
	full := weigh.Weighing{Left: list(0, 1, 2, 3, 4, 5), Right: list(7, 8, 9, 10, 11, 12)}
	crossed := weigh.Weighing{Left: list(7, 8, 9, 10, 11, 12), Right: list(0, 1, 2, 3, 4, 5)}
	all := []trial{{1, plan()}, {2, plan(against(1, 0))}, {13, plan(full, crossed, full)}, {13, plan(against(12, 0), against(12, 0), against(12, 0))}}
	for _, x := range append(all, trials()...) {
		if e := weigh.CheckPlan(x.stones, x.plan); e != api.OK {
			t.Errorf("CheckPlan of %v: %d", x, e)
		}
	}
}

// errorOf is P12.4, for a weighing.
func errorOf(stones int, w weigh.Weighing) api.Errno {
	if len(w.Left)*len(w.Right) == 0 {
		return api.ErrEmpty
	}
	if len(w.Left) != len(w.Right) {
		return api.ErrForm
	}
	for i, stone := range slices.Concat(w.Left, w.Right) {
		at, pan := i, w.Left
		if i >= len(w.Left) {
			at, pan = i-len(w.Left), w.Right
		}
		if stone < 0 || stone > stones-1 {
			return api.ErrNone
		}
		if at > 0 && pan[at-1] >= stone {
			return api.ErrOrder
		}
		if i > at && slices.Contains(w.Left, stone) {
			return api.ErrAgain
		}
	}
	return api.OK
}

// pans returns all lists of up to so many numbers.
func pans(longest int, numbers []int) [][]int {
	all := [][]int{nil}
	longer := all
	for range longest {
		var next [][]int
		for _, l := range longer {
			for _, number := range numbers {
				next = append(next, append(slices.Clone(l), number))
			}
		}
		all = append(all, next...)
		longer = next
	}
	return all
}

// P12.4: all weighings with up to two stones on a pan, and some of those with three, also behind and before other ones.
func TestCheckPlanAll(t *testing.T) {
	for stones := 1; stones <= 4; stones++ {
		var numbers []int
		for number := -1; number <= stones; number++ {
			numbers = append(numbers, number)
		}
		all := pans(2, numbers)
		for i, l := range pans(3, numbers) {
			if len(l) == 3 && i%11 == 0 {
				all = append(all, l)
			}
		}
		met := map[api.Errno]bool{}
		for _, l := range all {
			for _, r := range all {
				w := weigh.Weighing{Left: l, Right: r}
				want := errorOf(stones, w)
				if e := weigh.CheckPlan(stones, plan(w)); e != want {
					t.Fatalf("CheckPlan of %d %v: %d, want %d", stones, w, e, want)
				}
				met[want] = true
				if want == api.OK { // the one behind it decides
					want = api.ErrEmpty
				}
				if e := weigh.CheckPlan(stones, plan(w, w, weigh.Weighing{})); e != want {
					t.Fatalf("CheckPlan of %d %v twice: %d, want %d", stones, w, e, want)
				}
			}
		}
		if stones > 1 && len(met) != 6 {
			t.Errorf("%d stones: %v", stones, met)
		}
	}
}
