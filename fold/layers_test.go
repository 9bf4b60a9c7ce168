package fold_test

import (
	"math"
	"slices"
	"testing"

	"tusche/api"
	"tusche/fold"
)

// P2.2: each list of segments, for each strip.
func TestLies(t *testing.T) {
	for _, lengths := range shortLengths() {
		orders := ordersOf(len(lengths))
		for _, s := range stripsOf(lengths) {
			for _, order := range orders {
				checkLies(t, s, order)
			}
		}
	}
}

// P2.2: each list of segments, for the strip with its folds, and for one with another fold.
func TestLiesLong(t *testing.T) {
	for _, lengths := range longLengths() {
		for i, order := range ordersOf(len(lengths)) {
			s := strip(turnsOf(order), lengths...)
			checkLies(t, s, order)
			folds, other := []byte(s.Folds), i%len(s.Folds)
			folds[other] = 'm' + 'v' - folds[other]
			s.Folds = string(folds)
			checkLies(t, s, order)
		}
	}
}

func checkLies(t *testing.T, s fold.Strip, order []int) {
	t.Helper()
	want := api.ErrProof
	if s.Folds == turnsOf(order) && passes(s.Lengths, order) {
		want = api.OK
	}
	if e := fold.Lies(s, order); e != want {
		t.Fatalf("Lies of %v: %v: %d, want %d", s, order, e, want)
	}
}

// P2.2: each condition by itself.
func TestLiesConditions(t *testing.T) {
	for i, x := range []struct {
		strip fold.Strip
		order []int
		want  api.Errno
	}{
		{strip("", 1), list(0), api.OK},
		{strip("v", 1, 1), list(0, 1), api.OK},
		{strip("v", 1, 1), list(1, 0), api.ErrProof},
		{strip("m", 1, 1), list(1, 0), api.OK},
		{strip("m", 1, 1), list(0, 1), api.ErrProof},
		{strip("mm", 1, 1, 1), list(1, 2, 0), api.OK}, // an odd crease turns the other way round
		{strip("mv", 1, 1, 1), list(1, 2, 0), api.ErrProof},
		{strip("vv", 1, 1, 1), list(0, 2, 1), api.OK},       // a segment that ends at the point may be inside
		{strip("vv", 1, 1, 2), list(0, 2, 1), api.ErrProof}, // one that goes on may not
		{strip("vv", 1, 1, 2), list(2, 0, 1), api.OK},
		{strip("vv", 2, 1, 1), list(0, 2, 1), api.OK},
		{strip("vv", 2, 1, 1), list(2, 0, 1), api.ErrProof},
		{strip("vvm", 1, 1, 1, 1), list(0, 3, 2, 1), api.OK}, // both segments of a crease inside
		{strip("vmv", 1, 1, 1, 1), list(0, 1, 2, 3), api.OK}, // none inside
		{strip("vvv", 1, 1, 1, 1), list(2, 0, 1, 3), api.OK},
		{strip("vvv", 1, 1, 1, 1), list(2, 0, 3, 1), api.ErrProof}, // just one
		{strip("vvv", 1, 1, 1, 1), list(0, 2, 1, 3), api.ErrProof},
		{strip("vvv", 1, 1, 2, 2), list(2, 0, 3, 1), api.ErrProof},  // it goes through the crease
		{strip("vmmm", 1, 1, 2, 1, 1), list(3, 0, 4, 1, 2), api.OK}, // just one, but at the other side
	} {
		if e := fold.Lies(x.strip, x.order); e != x.want {
			t.Errorf("%d: Lies of %v: %v: %d, want %d", i, x.strip, x.order, e, x.want)
		}
	}
}

// P2.2.
func TestLiesErrors(t *testing.T) {
	for _, x := range badStrips() {
		for _, order := range [][]int{nil, list(0), list(0, 0), list(-1, 9), ordersOf(len(x.strip.Lengths) % 8)[0]} {
			if e := fold.Lies(x.strip, order); e != x.want {
				t.Errorf("Lies of %v: %v: %d, want %d", x.strip, order, e, x.want)
			}
		}
	}
	for _, x := range []struct {
		order []int
		want  api.Errno
	}{
		{nil, api.ErrForm},
		{list(), api.ErrForm},
		{list(0, 1), api.ErrForm},
		{list(9, 9), api.ErrForm},
		{list(0, 1, 2, 3), api.ErrForm},
		{list(0, 0, 9, 9), api.ErrForm},
		{make([]int, 5000), api.ErrForm},
		{list(3, 0, 1), api.ErrNone},
		{list(0, 1, 3), api.ErrNone},
		{list(-1, 0, 1), api.ErrNone},
		{list(1, 0, -1), api.ErrNone},
		{list(math.MaxInt, 0, 0), api.ErrNone},
		{list(math.MinInt, math.MinInt, 0), api.ErrNone},
		{list(3, 3, 3), api.ErrNone},
		{list(0, 3, 0), api.ErrNone},
		{list(0, 0, 3), api.ErrAgain},
		{list(1, 1, 1), api.ErrAgain},
		{list(0, 1, 0), api.ErrAgain},
		{list(0, 2, 2), api.ErrAgain},
		{list(2, 2, -1), api.ErrAgain},
		{list(2, 1, 0), api.ErrProof},
	} {
		if e := fold.Lies(exampleS(), x.order); e != x.want {
			t.Errorf("Lies of S: %v: %d, want %d", x.order, e, x.want)
		}
	}
	if e := fold.Lies(exampleT(), list(0, 1, 2, 3)); e != api.ErrProof {
		t.Errorf("Lies of T: %d", e)
	}
}

// P2.3.
func TestOrderCountAll(t *testing.T) {
	for _, lengths := range manyLengths() {
		foldings, all := foldingsOf(lengths), 0
		for _, s := range stripsOf(lengths) {
			want := foldings[s.Folds]
			all += len(want)
			if n, e := fold.Count(s); n != len(want) || e != api.OK {
				t.Fatalf("Count of %v: %d %d, want %d", s, n, e, len(want))
			}
			l, e := fold.Order(s)
			if len(want) == 0 && (len(l) != 0 || e != api.ErrLost) {
				t.Fatalf("Order of %v, which is not flat: %v %d", s, l, e)
			}
			if len(want) > 0 && (!slices.Equal(l, want[0]) || e != api.OK) {
				t.Fatalf("Order of %v: %v %d, want %v", s, l, e, want[0])
			}
		}
		if n, e := fold.All(lengths); n != all || e != api.OK {
			t.Fatalf("All of %v: %d %d, want %d", lengths, n, e, all)
		}
	}
}

// P2.3: strips at the limits.
func TestOrderCountAllLimits(t *testing.T) {
	for _, s := range []fold.Strip{strip("", 1), strip("", 350)} {
		l, e := fold.Order(s)
		n, f := fold.Count(s)
		a, g := fold.All(s.Lengths)
		if !slices.Equal(l, list(0)) || n != 1 || a != 1 || e != api.OK || f != api.OK || g != api.OK {
			t.Errorf("%v: Order %v %d, Count %d %d, All %d %d", s, l, e, n, f, a, g)
		}
	}
	if n, e := fold.All(list(1, 349)); n != 2 || e != api.OK {
		t.Errorf("All of 1, 349: %d %d", n, e)
	}
	if n, e := fold.All(slices.Repeat(list(50), 7)); n != 462 || e != api.OK {
		t.Errorf("All of 50, seven times: %d %d", n, e)
	}
}

// P2.3.
func TestOrderCountAllErrors(t *testing.T) {
	for _, x := range badStrips() {
		if l, e := fold.Order(x.strip); len(l) != 0 || e != x.want {
			t.Errorf("Order of %v: %v %d, want %d", x.strip, l, e, x.want)
		}
		if n, e := fold.Count(x.strip); n != 0 || e != x.want {
			t.Errorf("Count of %v: %d %d, want %d", x.strip, n, e, x.want)
		}
	}
	for _, x := range badLengths() {
		if n, e := fold.All(x.strip.Lengths); n != 0 || e != x.want {
			t.Errorf("All of %v: %d %d, want %d", x.strip.Lengths, n, e, x.want)
		}
	}
}
