package cross_test

import (
	"math"
	"slices"
	"testing"

	"tusche/api"
	"tusche/cross"
)

// lengths are those of the shortest rules with 2 to 7 crosses (P11.10).
func lengths() []int { return list(0, 0, 1, 3, 6, 11, 17, 25) }

// firstOf returns the first rule with so many crosses up to a place that fits, nil if there is none.
func firstOf(crosses, most int, fits func(rule []int) bool) []int {
	var first []int
	eachRule(crosses, 0, most, func(rule []int) bool {
		if fits(rule) {
			first = slices.Clone(rule)
		}
		return first == nil
	})
	return first
}

// P11.6, P11.10, M4: of all rules from 0 to each length, the shorter ones first.
func TestShortest(t *testing.T) {
	for crosses := 2; crosses <= cross.MaxShort; crosses++ {
		var want []int
		for most := 1; want == nil; most++ {
			eachRule(crosses-1, 1, most, func(rest []int) bool {
				if rule := append(list(0), rest...); isClear(rule) {
					want = rule
				}
				return want == nil
			})
		}
		if l := shortest(t, crosses); !slices.Equal(l, want) || lengthOf(l) != lengths()[crosses] {
			t.Errorf("Shortest of %d: %v, want %v", crosses, l, want)
		}
	}
}

// P11.6, P11.7: numbers of crosses and sizes that are none.
func TestSearchErrors(t *testing.T) {
	for _, crosses := range list(1, 0, -1, 8, 9, math.MinInt, math.MaxInt) {
		if l, e := cross.Shortest(crosses); len(l) != 0 || e != api.ErrBounds {
			t.Errorf("Shortest of %d: %v %d", crosses, l, e)
		}
	}
	for _, x := range []pair{{1, 40}, {0, 40}, {-1, 40}, {7, 40}, {8, 40}, {math.MinInt, 40}, {math.MaxInt, 40}, {2, 1}, {2, 0}, {2, -1}, {2, 41}, {6, 41}, {2, math.MinInt}, {2, math.MaxInt}, {1, 41}, {7, 1}} {
		if l, e := cross.Roller(x[0], x[1]); len(l) != 0 || e != api.ErrBounds {
			t.Errorf("Roller of %d, %d: %v %d", x[0], x[1], l, e)
		}
	}
}

// bestOf is the chapter's definition.
func bestOf(rule []int) api.Errno {
	switch {
	case len(rule) > 7:
		return api.ErrMany
	case !isClear(rule):
		return api.ErrProof
	case lengthOf(rule) > lengths()[len(rule)]:
		return api.ErrLost
	}
	return api.OK
}

// P11.6.
func TestBest(t *testing.T) {
	results := map[api.Errno]int{}
	for _, rule := range rules() {
		want := bestOf(rule)
		if e := cross.Best(rule); e != want {
			t.Fatalf("Best of %v: %d, want %d", rule, e, want)
		}
		results[want]++
	}
	if len(results) != 4 || results[api.OK] < 30 || results[api.ErrLost] < 300 || results[api.ErrProof] < 300 {
		t.Errorf("%v", results)
	}
}

// P11.6: rules that are a shortest one, also at other places and mirrored, that are longer by one, and all others.
func TestBestEdges(t *testing.T) {
	for _, x := range []struct {
		rule []int
		want api.Errno
	}{
		{list(0, 1), api.OK},
		{list(59, 60), api.OK},
		{list(0, 2), api.ErrLost},
		{list(0, 60), api.ErrLost},
		{list(0, 1, 3), api.OK},
		{list(57, 59, 60), api.OK},
		{list(0, 1, 4), api.ErrLost},
		{list(0, 1, 2), api.ErrProof},
		{list(0, 2, 5, 6), api.OK},
		{list(54, 56, 59, 60), api.OK},
		{list(0, 1, 5, 7), api.ErrLost},
		{list(0, 2, 7, 8, 11), api.OK},
		{list(49, 50, 53, 58, 60), api.OK},
		{list(0, 1, 4, 10, 12), api.ErrLost},
		{list(0, 1, 4, 9, 10), api.ErrProof},
		{list(0, 1, 8, 11, 13, 17), api.OK},
		{list(0, 1, 4, 10, 16, 18), api.ErrProof},
		{list(0, 1, 8, 12, 14, 17), api.OK},
		{list(0, 1, 3, 8, 14, 18), api.ErrLost},
		{list(0, 2, 3, 10, 16, 21, 25), api.OK},
		{list(35, 36, 42, 46, 55, 58, 60)[:6], api.ErrLost},
		{list(35, 37, 42, 50, 56, 59, 60), api.OK},
		{list(0, 1, 4, 10, 18, 23, 26), api.ErrProof},
		{list(0, 1, 7, 11, 20, 23, 25), api.OK},
		{list(0, 1, 3, 7, 12, 20, 30), api.ErrLost},
		{list(0, 1, 4, 9, 15, 22, 32, 34), api.ErrMany}, // though it is a shortest one
		{list(0, 1, 2, 3, 4, 5, 6, 7), api.ErrMany},
		{list(0, 1, 2, 3, 4, 5, 6), api.ErrProof},
	} {
		if want := bestOf(x.rule); want != x.want {
			t.Fatalf("Best of %v: %d by definition, but %d", x.rule, want, x.want)
		}
		if e := cross.Best(x.rule); e != x.want {
			t.Errorf("Best of %v: %d, want %d", x.rule, e, x.want)
		}
	}
}

// P11.6, M4: all clear rules from 0 to the shortest lengths, and to the next ones.
func TestBestOfAll(t *testing.T) {
	for crosses := 2; crosses <= 6; crosses++ {
		best, others := 0, 0
		eachRule(crosses, 0, lengths()[crosses]+1, func(rule []int) bool {
			if !isClear(rule) {
				return true
			}
			e := cross.Best(rule)
			if (e == api.OK) != (lengthOf(rule) == lengths()[crosses]) || e != bestOf(rule) {
				t.Errorf("Best of %v: %d", rule, e)
			}
			if e == api.OK {
				best++
			} else {
				others++
			}
			return true
		})
		if best < 2 || others < 1 {
			t.Errorf("%d crosses: %d and %d", crosses, best, others)
		}
	}
}

// P11.7, M3, M4: of all rules, also those that do not begin at 0.
func TestRoller(t *testing.T) {
	for crosses := 2; crosses <= cross.MaxRoller; crosses++ {
		for size := 2; size <= cross.MaxSize; size++ {
			want := firstOf(crosses, size-1, func(rule []int) bool { return isClearAround(rule, size) })
			l, e := cross.Roller(crosses, size)
			if !slices.Equal(l, want) || (e == api.OK) != (want != nil) || e != api.OK && e != api.ErrLost {
				t.Errorf("Roller of %d, %d: %v %d, want %v", crosses, size, l, e, want)
			}
		}
	}
}

// P11.7: the smallest rollers for each number of crosses, and greater ones for which there is no rule.
func TestRollerEdges(t *testing.T) {
	for _, x := range []struct {
		crosses, size int
		want          []int
	}{
		{2, 2, nil},
		{2, 3, list(0, 1)},
		{2, 4, list(0, 1)},
		{2, 40, list(0, 1)},
		{3, 2, nil}, // more crosses than places
		{3, 6, nil},
		{3, 7, list(0, 1, 3)},
		{4, 12, nil},
		{4, 13, list(0, 1, 3, 9)},
		{4, 14, list(0, 1, 4, 6)},
		{5, 20, nil},
		{5, 21, list(0, 1, 4, 14, 16)},
		{5, 22, nil},
		{5, 23, list(0, 1, 3, 8, 14)},
		{6, 2, nil},
		{6, 30, nil},
		{6, 31, list(0, 1, 3, 8, 12, 18)},
		{6, 34, nil},
		{6, 35, list(0, 1, 3, 7, 12, 20)},
		{6, 40, list(0, 1, 3, 7, 17, 28)},
	} {
		want := api.OK
		if x.want == nil {
			want = api.ErrLost
		}
		if l, e := cross.Roller(x.crosses, x.size); !slices.Equal(l, x.want) || e != want {
			t.Errorf("Roller of %d, %d: %v %d, want %v", x.crosses, x.size, l, e, x.want)
		}
	}
}
