package cross_test

import (
	"math"
	"slices"
	"testing"

	"tusche/api"
	"tusche/cross"
)

// placesOf is the chapter's definition.
func placesOf(rule []int, most int) []int {
	var all []int
	for place := range most + 1 {
		if longer := added(rule, place); len(longer) > len(rule) && isClear(longer) {
			all = append(all, place)
		}
	}
	return all
}

// P11.5, P11.13, M3: by all places.
func TestPlaces(t *testing.T) {
	free, many, before := 0, 0, 0
	for _, rule := range rules() {
		if !isClear(rule) || len(rule) == cross.MaxCrosses {
			continue
		}
		free++
		for _, most := range list(60, free%61, free%17) {
			want := placesOf(rule, most)
			l := places(t, rule, most)
			if !slices.Equal(l, want) {
				t.Fatalf("Places of %v up to %d: %v, want %v", rule, most, l, want)
			}
			many = max(many, len(l))
			if len(l) > 0 && l[0] < rule[0] {
				before++
			}
		}
	}
	if free < 500 || many < 40 || before < 100 {
		t.Errorf("%d %d %d", free, many, before)
	}
}

// P11.5: the smallest and the greatest limits, places before, between and behind the crosses, and rules to which none can be added.
func TestPlacesEdges(t *testing.T) {
	for _, x := range []struct {
		rule []int
		most int
		want []int
	}{
		{list(0, 1), 0, nil},
		{list(0, 1), 1, nil},
		{list(0, 1), 2, nil},
		{list(0, 1), 3, list(3)},
		{list(0, 1), 4, list(3, 4)},
		{list(2, 3), 0, list(0)}, // the limit may lie before the rule
		{list(1, 2), 0, nil},
		{list(2, 3), 6, list(0, 5, 6)},
		{list(59, 60), 60, shifts(0, 57)},
		{list(0, 60), 3, list(1, 2, 3)},
		{list(29, 31), 32, append(shifts(0, 26), 28, 32)}, // 27 makes 2 twice, 30 makes 1 twice
		{list(0, 1, 4, 6), 12, nil},
		{list(0, 1, 4, 6), 13, list(13)},
		{list(0, 1, 4, 6), 15, list(13, 14, 15)},
		{list(0, 2, 6), 9, list(5, 7, 9)},
		{list(0, 1, 4, 10, 18, 23, 25), 25, nil},
	} {
		if want := placesOf(x.rule, x.most); !slices.Equal(want, x.want) {
			t.Fatalf("Places of %v up to %d: %v by definition, but %v", x.rule, x.most, want, x.want)
		}
		if l := places(t, x.rule, x.most); !slices.Equal(l, x.want) {
			t.Errorf("Places of %v up to %d: %v, want %v", x.rule, x.most, l, x.want)
		}
	}
}

// P11.5: rules that are not clear, that have all crosses, and limits that are none, in this order.
func TestPlacesErrors(t *testing.T) {
	full := list(0, 1, 4, 9, 15, 22, 32, 34)
	for _, x := range []struct {
		rule []int
		most int
		want api.Errno
	}{
		{list(0, 1, 2), 9, api.ErrProof},
		{list(0, 1, 2), 0, api.ErrProof},
		{list(0, 1, 2), -1, api.ErrProof},
		{list(0, 1, 2), 61, api.ErrProof},
		{list(0, 1, 2, 3, 4, 5, 6, 7), 9, api.ErrProof},
		{list(0, 1, 2, 3, 4, 5, 6, 7), -1, api.ErrProof},
		{list(10, 20, 30), 9, api.ErrProof},
		{full, 60, api.ErrMany},
		{full, 0, api.ErrMany},
		{full, -1, api.ErrMany},
		{full, 61, api.ErrMany},
		{full[:7], 60, api.OK},
		{full[:7], 0, api.OK},
		{full[:7], -1, api.ErrBounds},
		{full[:7], 61, api.ErrBounds},
		{list(0, 1), -1, api.ErrBounds},
		{list(0, 1), 61, api.ErrBounds},
		{list(0, 1), math.MinInt, api.ErrBounds},
		{list(0, 1), math.MaxInt, api.ErrBounds},
		{list(0, 1), 0, api.OK},
		{list(0, 1), 60, api.OK},
	} {
		if l, e := cross.Places(x.rule, x.most); e != x.want || e != api.OK && len(l) != 0 {
			t.Errorf("Places of %v up to %d: %v %d, want %d", x.rule, x.most, l, e, x.want)
		}
	}
}
