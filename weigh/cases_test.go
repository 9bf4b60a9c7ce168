package weigh_test

import (
	"math"
	"slices"
	"testing"

	"tusche/api"
	"tusche/weigh"
)

// P12.5: all cases, on a balance of the tests' own.
func TestShows(t *testing.T) {
	for _, x := range trials() {
		for _, c := range everyCase(x.stones) {
			if l := shows(t, x, c); !slices.Equal(l, seen(x.plan, c)) {
				t.Fatalf("Shows of %v, %v: %v, want %v", x, c, l, seen(x.plan, c))
			}
		}
		for stone := range x.stones { // without an odd one it does not matter
			if l := shows(t, x, situation{stone, 0}); len(l) != len(x.plan) || slices.ContainsFunc(l, func(n int) bool { return n != 0 }) {
				t.Fatalf("Shows of %v, none: %v", x, l)
			}
		}
	}
}

// P12.5: stones and ways that are none.
func TestShowsErrors(t *testing.T) {
	for _, x := range []struct {
		stones, odd, way int
		want             api.Errno
	}{
		{3, -1, 1, api.ErrNone},
		{3, 3, 1, api.ErrNone},
		{3, 3, 0, api.ErrNone}, // also if there is no odd one
		{3, -1, 0, api.ErrNone},
		{13, 13, -1, api.ErrNone},
		{13, 12, -1, api.OK},
		{2, 2, 1, api.ErrNone},
		{3, math.MinInt, 1, api.ErrNone},
		{3, math.MaxInt, -1, api.ErrNone},
		{3, 0, 2, api.ErrSize},
		{3, 0, -2, api.ErrSize},
		{3, 2, math.MinInt, api.ErrSize},
		{3, 2, math.MaxInt, api.ErrSize},
		{3, 3, 2, api.ErrNone}, // before the way
		{3, -1, -2, api.ErrNone},
		{3, 2, -1, api.OK},
	} {
		l, e := weigh.Shows(x.stones, plan(against(0, 1)), x.odd, x.way)
		if e != x.want || (e == api.OK) != (len(l) == 1) {
			t.Errorf("%v: %v %d", x, l, e)
		}
	}
}

// firstTwins is P12.6: the first two cases that show the same.
func firstTwins(x trial) (a, b situation, e api.Errno) {
	all := everyCase(x.stones)
	for i := range all {
		for k := i + 1; k < len(all); k++ {
			if slices.Equal(seen(x.plan, all[i]), seen(x.plan, all[k])) {
				return all[i], all[k], api.OK
			}
		}
	}
	return a, b, api.ErrLost
}

// P12.6, M3: by all pairs of cases, in their order.
func TestTwins(t *testing.T) {
	lost, later := 0, 0
	for _, x := range trials() {
		a, b, e := weigh.Twins(x.stones, x.plan)
		first, second, want := firstTwins(x)
		if a != first || b != second || e != want {
			t.Fatalf("Twins of %v: %v %v %d, want %v %v %d", x, a, b, e, first, second, want)
		}
		if want == api.ErrLost {
			lost++
		} else if first[1] != 0 {
			later++
		}
	}
	if lost < 20 || later < 200 {
		t.Errorf("only %d tell all cases, and only %d have other twins than none", lost, later)
	}
}

// P12.6: the order of cases, and of pairs of them.
func TestTwinsEdges(t *testing.T) {
	pan := func(l ...int) []int { return l }
	for _, x := range []struct {
		trial
		a, b situation
		e    api.Errno
	}{
		{trial{1, nil}, situation{0, 0}, situation{0, 1}, api.OK},
		{trial{13, nil}, situation{0, 0}, situation{0, 1}, api.OK},
		{trial{2, plan(against(0, 1))}, situation{0, 1}, situation{1, -1}, api.OK}, // heavier before lighter
		{trial{2, plan(against(0, 1), against(1, 0), against(0, 1))}, situation{0, 1}, situation{1, -1}, api.OK},
		{trial{3, plan(against(1, 2))}, situation{0, 0}, situation{0, 1}, api.OK},
		{trial{3, plan(against(0, 1), against(0, 2))}, situation{}, situation{}, api.ErrLost},
		{trial{3, plan(against(0, 1), against(0, 2), against(1, 2))}, situation{}, situation{}, api.ErrLost},
		{trial{4, plan(against(0, 1), against(0, 2))}, situation{0, 0}, situation{3, 1}, api.OK},
		{trial{4, plan(weigh.Weighing{Left: pan(0, 1), Right: pan(2, 3)})}, situation{0, 1}, situation{1, 1}, api.OK},
		{trial{4, plan(weigh.Weighing{Left: pan(0, 3), Right: pan(1, 2)})}, situation{0, 1}, situation{1, -1}, api.OK},
		{trial{4, plan(weigh.Weighing{Left: pan(0, 3), Right: pan(1, 2)}, against(0, 1))}, situation{0, 1}, situation{1, -1}, api.OK},
		{trial{4, plan(weigh.Weighing{Left: pan(0, 3), Right: pan(1, 2)}, against(0, 3))}, situation{1, 1}, situation{2, 1}, api.OK},
	} {
		if a, b, e := weigh.Twins(x.stones, x.plan); a != x.a || b != x.b || e != x.e {
			t.Errorf("Twins of %v: %v %v %d, want %v %v %d", x.trial, a, b, e, x.a, x.b, x.e)
		}
	}
}

// P12.6, M3: everything that can be shown.
func TestLeft(t *testing.T) {
	for _, x := range trials() {
		for _, shown := range everyLaying(len(x.plan)) {
			var want []situation
			for _, c := range everyCase(x.stones) {
				if slices.Equal(seen(x.plan, c), shown) {
					want = append(want, c)
				}
			}
			if l := left(t, x, shown); !slices.Equal(l, want) {
				t.Fatalf("Left of %v, %v: %v, want %v", x, shown, l, want)
			}
		}
	}
}

// P12.6: the empty plan, nobody left, and what cannot be shown.
func TestLeftEdges(t *testing.T) {
	one := plan(against(0, 1))
	for _, x := range []struct {
		trial
		shown []int
		want  []situation
		e     api.Errno
	}{
		{trial{1, nil}, nil, []situation{{0, 0}, {0, 1}, {0, -1}}, api.OK},
		{trial{2, plan()}, list(), []situation{{0, 0}, {0, 1}, {0, -1}, {1, 1}, {1, -1}}, api.OK},
		{trial{2, one}, list(0), []situation{{0, 0}}, api.OK},
		{trial{2, one}, list(1), []situation{{0, -1}, {1, 1}}, api.OK},
		{trial{2, plan(against(0, 1), against(0, 1))}, list(1, -1), nil, api.OK},
		{trial{2, one}, nil, nil, api.ErrForm},
		{trial{2, one}, list(0, 0), nil, api.ErrForm},
		{trial{2, nil}, list(0), nil, api.ErrForm},
		{trial{2, one}, make([]int, 100000), nil, api.ErrForm},
		{trial{2, one}, list(2), nil, api.ErrForm},
		{trial{2, one}, list(-2), nil, api.ErrForm},
		{trial{2, one}, list(math.MinInt), nil, api.ErrForm},
		{trial{2, one}, list(math.MaxInt), nil, api.ErrForm},
		{trial{2, plan(against(0, 1), against(0, 1))}, list(1, 2), nil, api.ErrForm},
	} {
		if l, e := weigh.Left(x.stones, x.plan, x.shown); !slices.Equal(l, x.want) || e != x.e {
			t.Errorf("Left of %v, %v: %v %d, want %v %d", x.trial, x.shown[:min(4, len(x.shown))], l, e, x.want, x.e)
		}
	}
}
