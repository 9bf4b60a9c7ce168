package cross_test

import (
	"math"
	"testing"

	"tusche/api"
	"tusche/cross"
)

// firstTwo is the chapter's definition: the first pair whose distance another one has, and the first other one with this distance.
func firstTwo(pairs []pair, distance func(p pair) int) (one, two pair, e api.Errno) {
	for _, one := range pairs {
		for _, two := range pairs {
			if one != two && distance(one) == distance(two) {
				return one, two, api.OK
			}
		}
	}
	return pair{}, pair{}, api.ErrNone
}

// P11.1, M3: by all pairs.
func TestTwice(t *testing.T) {
	free, far := 0, 0
	for _, rule := range rules() {
		a, b, want := firstTwo(pairsOf(rule), func(p pair) int { return distance(rule, p) })
		one, two, e := cross.Twice(rule)
		if one != a || two != b || e != want {
			t.Fatalf("Twice of %v: %v %v %d, want %v %v %d", rule, one, two, e, a, b, want)
		}
		if want == api.ErrNone {
			free++
		}
		if two[0] > 2 && one[0] > 0 {
			far++
		}
	}
	if free < 200 || far < 30 {
		t.Errorf("%d %d", free, far)
	}
}

// P11.1: pairs that share a cross, that overlap, and that lie apart; the first one and its first other one, not two others that come together before.
func TestTwiceEdges(t *testing.T) {
	for _, x := range []struct {
		rule     []int
		one, two pair
		e        api.Errno
	}{
		{list(0, 60), pair{}, pair{}, api.ErrNone},
		{list(59, 60), pair{}, pair{}, api.ErrNone},
		{list(0, 30, 60), pair{0, 1}, pair{1, 2}, api.OK},
		{list(0, 29, 60), pair{}, pair{}, api.ErrNone},
		{list(0, 1, 3, 4), pair{0, 1}, pair{2, 3}, api.OK}, // 0 2 and 1 3 as well
		{list(0, 1, 2, 3), pair{0, 1}, pair{1, 2}, api.OK}, // 2 3 as well
		{list(0, 2, 5, 7), pair{0, 1}, pair{2, 3}, api.OK},
		{list(0, 1, 5, 9), pair{1, 2}, pair{2, 3}, api.OK},
		{list(0, 4, 5, 6, 10), pair{0, 1}, pair{3, 4}, api.OK}, // 1 2 and 2 3 come later, but meet earlier
		{list(0, 5, 6, 7, 17, 27), pair{1, 2}, pair{2, 3}, api.OK},
		{list(0, 7, 8, 9, 20, 27), pair{0, 1}, pair{4, 5}, api.OK},
		{list(0, 1, 4, 10, 18, 23, 25, 31), pair{2, 3}, pair{6, 7}, api.OK}, // 2 6 and 3 7 as well
		{list(0, 1, 2, 3, 4, 5, 6, 7), pair{0, 1}, pair{1, 2}, api.OK},
		{list(0, 1, 3, 7, 12, 20, 30, 40), pair{0, 5}, pair{5, 7}, api.OK}, // 5 6 and 6 7 as well
		{list(0, 1, 3, 7, 12, 20, 30, 44), pair{}, pair{}, api.ErrNone},
	} {
		if one, two, e := cross.Twice(x.rule); one != x.one || two != x.two || e != x.e {
			t.Errorf("Twice of %v: %v %v %d, want %v %v %d", x.rule, one, two, e, x.one, x.two, x.e)
		}
	}
}

// P11.7, M3: by all arrows.
func TestAround(t *testing.T) {
	results := map[api.Errno]int{}
	for number, rule := range rules() {
		last := rule[len(rule)-1]
		for size := max(2, last+1); size <= cross.MaxSize; size += 1 + (number+size)%3 {
			a, b, want := firstTwo(arrowsOf(rule), func(p pair) int { return way(rule, size, p) })
			one, two, e := cross.Around(rule, size)
			if one != a || two != b || e != want {
				t.Fatalf("Around of %v, roller %d: %v %v %d, want %v %v %d", rule, size, one, two, e, a, b, want)
			}
			results[e]++
		}
	}
	if results[api.OK] < 1000 || results[api.ErrNone] < 1000 {
		t.Errorf("%v", results)
	}
}

// P11.7: an arrow and its way back, the last one and the first one, and the smallest rollers.
func TestAroundEdges(t *testing.T) {
	for _, x := range []struct {
		rule     []int
		size     int
		one, two pair
		e        api.Errno
	}{
		{list(0, 1), 2, pair{0, 1}, pair{1, 0}, api.OK},
		{list(0, 1), 3, pair{}, pair{}, api.ErrNone},
		{list(1, 2), 3, pair{}, pair{}, api.ErrNone},
		{list(0, 2), 4, pair{0, 1}, pair{1, 0}, api.OK},
		{list(0, 39), 40, pair{}, pair{}, api.ErrNone},
		{list(0, 20), 40, pair{0, 1}, pair{1, 0}, api.OK},
		{list(19, 39), 40, pair{0, 1}, pair{1, 0}, api.OK},
		{list(0, 1, 2), 3, pair{0, 1}, pair{1, 2}, api.OK}, // 2 0 as well
		{list(0, 1, 3), 4, pair{0, 1}, pair{2, 0}, api.OK},
		{list(0, 1, 3), 5, pair{0, 2}, pair{2, 1}, api.OK}, // 1 2 and 2 0 as well
		{list(0, 1, 3), 6, pair{0, 2}, pair{2, 0}, api.OK},
		{list(0, 1, 3), 7, pair{}, pair{}, api.ErrNone},
		{list(0, 1, 3, 9), 13, pair{}, pair{}, api.ErrNone},
		{list(0, 1, 3, 9), 14, pair{1, 3}, pair{3, 2}, api.OK}, // 2 3 and 3 1 as well
		{list(0, 1, 4, 14, 16), 21, pair{}, pair{}, api.ErrNone},
		{list(0, 1, 3, 8, 12, 18), 31, pair{}, pair{}, api.ErrNone},
		{list(0, 1, 2, 3, 4, 5, 6, 7), 8, pair{0, 1}, pair{1, 2}, api.OK},
		{list(0, 1, 2, 3, 4, 5, 6, 7), 40, pair{0, 1}, pair{1, 2}, api.OK},
	} {
		if one, two, e := cross.Around(x.rule, x.size); one != x.one || two != x.two || e != x.e {
			t.Errorf("Around of %v, roller %d: %v %v %d, want %v %v %d", x.rule, x.size, one, two, e, x.one, x.two, x.e)
		}
	}
}

// P11.7: sizes that are none, and places that are not below the size.
func TestAroundErrors(t *testing.T) {
	for _, x := range []struct {
		rule []int
		size int
		want api.Errno
	}{
		{list(0, 1), 1, api.ErrBounds},
		{list(0, 1), 0, api.ErrBounds},
		{list(0, 1), -1, api.ErrBounds},
		{list(0, 1), 41, api.ErrBounds},
		{list(0, 1), math.MinInt, api.ErrBounds},
		{list(0, 1), math.MaxInt, api.ErrBounds},
		{list(0, 1), 40, api.ErrNone},
		{list(0, 60), 61, api.ErrBounds},
		{list(0, 60), 40, api.ErrBounds},
		{list(0, 40), 40, api.ErrBounds},
		{list(0, 40), 41, api.ErrBounds},
		{list(40, 41), 40, api.ErrBounds},
		{list(0, 39), 40, api.ErrNone},
		{list(0, 2), 2, api.ErrBounds},
		{list(0, 3), 2, api.ErrBounds},
		{list(0, 1, 3), 3, api.ErrBounds},
		{list(0, 1, 2, 3, 4, 5, 6, 7), 7, api.ErrBounds},
	} {
		if one, two, e := cross.Around(x.rule, x.size); one != (pair{}) || two != (pair{}) || e != x.want {
			t.Errorf("Around of %v, roller %d: %v %v %d, want %d", x.rule, x.size, one, two, e, x.want)
		}
	}
}
