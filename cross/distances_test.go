package cross_test

import (
	"math"
	"slices"
	"testing"

	"tusche/api"
	"tusche/cross"
)

// P11.2, M2: by all pairs.
func TestDistances(t *testing.T) {
	for _, rule := range rules() {
		met := map[int]bool{}
		for _, p := range pairsOf(rule) {
			met[distance(rule, p)] = true
		}
		var are, others []int
		for number := 1; number <= lengthOf(rule); number++ {
			if met[number] {
				are = append(are, number)
			} else {
				others = append(others, number)
			}
		}
		if l := distances(t, rule); !slices.Equal(l, are) {
			t.Fatalf("Distances of %v: %v, want %v", rule, l, are)
		}
		if l := missing(t, rule); !slices.Equal(l, others) {
			t.Fatalf("Missing of %v: %v, want %v", rule, l, others)
		}
	}
}

// P11.2: a distance that occurs twice is there once, none is missing, the longest rule, and rules that do not begin at 0.
func TestDistancesEdges(t *testing.T) {
	var all []int
	for number := range 59 {
		all = append(all, number+1)
	}
	for _, x := range []struct{ rule, distances, missing []int }{
		{list(0, 1), list(1), nil},
		{list(59, 60), list(1), nil},
		{list(0, 2), list(2), list(1)},
		{list(58, 60), list(2), list(1)},
		{list(0, 60), list(60), all},
		{list(0, 1, 2), list(1, 2), nil},
		{list(5, 10, 15), list(5, 10), list(1, 2, 3, 4, 6, 7, 8, 9)},
		{list(0, 1, 4, 6), list(1, 2, 3, 4, 5, 6), nil},
		{list(54, 55, 58, 60), list(1, 2, 3, 4, 5, 6), nil},
		{list(0, 1, 2, 3, 4, 5, 6, 7), list(1, 2, 3, 4, 5, 6, 7), nil},
	} {
		if l := distances(t, x.rule); !slices.Equal(l, x.distances) {
			t.Errorf("Distances of %v: %v, want %v", x.rule, l, x.distances)
		}
		if l := missing(t, x.rule); !slices.Equal(l, x.missing) {
			t.Errorf("Missing of %v: %v, want %v", x.rule, l, x.missing)
		}
	}
}

// P11.3: by all places, at all shifts.
func TestCommon(t *testing.T) {
	for _, rule := range rules() {
		for shift := -60; shift <= 60; shift++ {
			want := 0
			for _, place := range rule {
				for _, other := range rule {
					if place+shift == other {
						want++
					}
				}
			}
			if n := common(t, rule, shift); n != want {
				t.Fatalf("Common of %v at %d: %d, want %d", rule, shift, n, want)
			}
		}
	}
}

// P11.3: the limits of shifts.
func TestCommonEdges(t *testing.T) {
	rule := list(0, 1, 59, 60)
	for _, x := range []struct{ shift, want int }{{-60, 1}, {-59, 2}, {-58, 1}, {-57, 0}, {-1, 2}, {0, 4}, {1, 2}, {57, 0}, {58, 1}, {59, 2}, {60, 1}} {
		if n := common(t, rule, x.shift); n != x.want {
			t.Errorf("at %d: %d, want %d", x.shift, n, x.want)
		}
	}
	for _, shift := range list(-61, 61, 100, math.MinInt, math.MaxInt) {
		if n, e := cross.Common(rule, shift); n != 0 || e != api.ErrBounds {
			t.Errorf("at %d: %d %d", shift, n, e)
		}
	}
}
