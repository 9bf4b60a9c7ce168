package cross_test

import (
	"slices"
	"testing"

	"tusche/api"
	"tusche/cross"
)

// P11.8, M3: clear just if at each other shift at most one cross falls on another one.
func TestClearByShifts(t *testing.T) {
	for _, rule := range rules() {
		most := 0
		for shift := 1; shift <= cross.MaxPlace; shift++ {
			n := common(t, rule, shift)
			if back := common(t, rule, -shift); back != n {
				t.Fatalf("Common of %v at %d: %d, but %d back", rule, shift, n, back)
			}
			most = max(most, n)
		}
		if is := saysClear(t, rule); is != (most <= 1) {
			t.Fatalf("%v: clear %t, but %d in common", rule, is, most)
		}
		if n := common(t, rule, 0); n != len(rule) {
			t.Fatalf("Common of %v at 0: %d", rule, n)
		}
	}
}

// P11.8: a piece on which at least two crosses are seen can be at one shift only; one of any rule is found (M6).
func TestOneShift(t *testing.T) {
	for number, rule := range append(mixedRules(), clearRules()...) {
		is := saysClear(t, rule)
		for width := number % 7; width <= cross.MaxPlace; width += 7 {
			for shift := -60; shift <= 60; shift += 1 + number%3 {
				seen := show(rule, width, shift)
				l := locate(t, rule, width, seen)
				if !slices.Contains(l, shift) || is && len(seen) >= 2 && len(l) != 1 {
					t.Fatalf("Locate on %v, width %d: %v: %v", rule, width, seen, l)
				}
			}
		}
	}
}

// P11.9, M4: the number of distances, the least length, and the least size of a roller.
func TestHowMany(t *testing.T) {
	for number, rule := range rules() {
		n := len(rule)
		l := distances(t, rule)
		if is := saysClear(t, rule); is != (len(l) == n*(n-1)/2) || is && lengthOf(rule) < len(l) {
			t.Fatalf("%v: clear %t, but %v", rule, is, l)
		}
		if both := append(l, missing(t, rule)...); len(both) != lengthOf(rule) {
			t.Fatalf("Distances and Missing of %v: %v", rule, both)
		}
		for size := max(2, rule[n-1]+1); size <= cross.MaxSize; size += 1 + number%2 {
			if saysClearAround(t, rule, size) && size < n*(n-1)+1 {
				t.Fatalf("Around of %v, roller %d", rule, size)
			}
		}
	}
	for crosses := 2; crosses <= cross.MaxRoller; crosses++ {
		for size := 2; size <= crosses*(crosses-1); size++ {
			if _, e := cross.Roller(crosses, size); e != api.ErrLost {
				t.Errorf("Roller of %d, %d: %d", crosses, size, e)
			}
		}
	}
}

// P11.10, M4: the lengths, and what Best says of what Shortest returns.
func TestShortestLengths(t *testing.T) {
	for crosses := 2; crosses <= cross.MaxShort; crosses++ {
		l := shortest(t, crosses)
		if len(l) != crosses || l[0] != 0 || lengthOf(l) != lengths()[crosses] || !saysClear(t, l) {
			t.Errorf("Shortest of %d: %v", crosses, l)
		}
		if e := cross.Best(l); e != api.OK {
			t.Errorf("Best of %v: %d", l, e)
		}
	}
}

// P11.10: no clear rule is shorter, whatever its places are.
func TestNoneShorter(t *testing.T) {
	for _, rule := range rules() {
		if len(rule) <= cross.MaxShort && saysClear(t, rule) && lengthOf(rule) < lengthOf(shortest(t, len(rule))) {
			t.Fatalf("%v", rule)
		}
	}
}

// P11.11, M1: without one of its crosses a clear rule remains clear, also around a roller.
func TestFewerCrosses(t *testing.T) {
	for number, rule := range rules() {
		size := rule[len(rule)-1] + 1 + number%7
		line, around := saysClear(t, rule), size >= 2 && size <= cross.MaxSize && saysClearAround(t, rule, size)
		if around && !line {
			t.Fatalf("%v is clear around a roller of %d only", rule, size)
		}
		for i := range rule {
			fewer := slices.Delete(slices.Clone(rule), i, i+1)
			if len(fewer) < 2 {
				continue
			}
			if line && !saysClear(t, fewer) || around && !saysClearAround(t, fewer, size) {
				t.Fatalf("%v, but not %v", rule, fewer)
			}
		}
	}
}

// P11.12, M5: all places are shifted, or mirrored.
func TestShifted(t *testing.T) {
	for number, rule := range rules() {
		one, two, e := cross.Twice(rule)
		for _, shift := range list(-rule[0], 60-rule[len(rule)-1], number%(61-lengthOf(rule))-rule[0]) {
			other := shifted(rule, shift)
			a, b, f := cross.Twice(other)
			if a != one || b != two || f != e || !slices.Equal(distances(t, other), distances(t, rule)) || !slices.Equal(missing(t, other), missing(t, rule)) {
				t.Fatalf("%v and %v", rule, other)
			}
		}
		other := mirrored(rule)
		if saysClear(t, other) != (e == api.ErrNone) || !slices.Equal(distances(t, other), distances(t, rule)) || !slices.Equal(missing(t, other), missing(t, rule)) {
			t.Fatalf("%v and %v", rule, other)
		}
		for shift := -60; shift <= 60; shift += 7 {
			if common(t, other, shift) != common(t, rule, shift) {
				t.Fatalf("%v and %v at %d", rule, other, shift)
			}
		}
	}
}

// P11.12: Best of other places.
func TestBestShifted(t *testing.T) {
	for _, rule := range append(mixedRules(), clearRules()...) {
		e := cross.Best(rule)
		if f := cross.Best(shifted(rule, -rule[0])); f != e {
			t.Errorf("Best of %v: %d, shifted %d", rule, e, f)
		}
		if f := cross.Best(mirrored(rule)); f != e {
			t.Errorf("Best of %v: %d, mirrored %d", rule, e, f)
		}
	}
}

// P11.12: mirrored pieces, and places to add.
func TestOthersMirrored(t *testing.T) {
	for number, rule := range append(mixedRules(), clearRules()...) {
		width := number % 30
		seen := show(rule, width, rule[number%len(rule)]-number%3) // at least one cross
		var back []int                                             // what is seen on the mirrored piece
		for _, place := range slices.Backward(seen) {
			back = append(back, width-place)
		}
		var want []int
		for _, shift := range slices.Backward(locate(t, rule, width, seen)) {
			want = append(want, 60-shift-width)
		}
		if l := locate(t, mirrored(rule), width, back); len(l) == 0 || !slices.Equal(l, want) {
			t.Fatalf("Locate on %v, width %d: %v mirrored: %v, want %v", rule, width, seen, l, want)
		}
		if saysClear(t, rule) && len(rule) < cross.MaxCrosses {
			all := places(t, rule, 60)
			if l := places(t, mirrored(rule), 60); !slices.Equal(l, mirrored(all)) {
				t.Fatalf("Places of %v mirrored: %v, want %v", rule, l, mirrored(all))
			}
		}
	}
}

// turned returns a rule around a roller whose places are multiplied, and turned.
func turned(rule []int, size, factor, turn int) []int {
	var all []int
	for _, place := range rule {
		all = append(all, (place*factor+turn)%size)
	}
	slices.Sort(all)
	return all
}

// haveCommonDivisor reports whether two numbers have a common divisor greater than 1.
func haveCommonDivisor(a, b int) bool {
	for b != 0 {
		a, b = b, a%b
	}
	return a > 1
}

// P11.12: all places around a roller are turned, and multiplied.
func TestTurned(t *testing.T) {
	free := 0
	for number, rule := range rules() {
		if number%11 != 0 && len(rule) < 5 {
			continue
		}
		for size := max(2, rule[len(rule)-1]+1); size <= cross.MaxSize; size += 1 + number%5 {
			is := saysClearAround(t, rule, size)
			if is {
				free++
			}
			for factor := 1; factor < size; factor++ {
				if haveCommonDivisor(factor, size) {
					continue
				}
				other := turned(rule, size, factor, (number+factor)%size)
				if saysClearAround(t, other, size) != is {
					t.Fatalf("%v and %v, roller %d: %t", rule, other, size, is)
				}
			}
		}
	}
	if free < 300 {
		t.Errorf("%d", free)
	}
}

// P11.13, M3: a place of Places makes no distance twice, and each other place makes one.
func TestAdded(t *testing.T) {
	for number, rule := range rules() {
		if !saysClear(t, rule) || len(rule) == cross.MaxCrosses {
			continue
		}
		most := 60 - number%3*20
		l := places(t, rule, most)
		for place := range most + 1 {
			if slices.Contains(rule, place) {
				if slices.Contains(l, place) {
					t.Fatalf("Places of %v up to %d: %v", rule, most, l)
				}
				continue
			}
			if saysClear(t, added(rule, place)) != slices.Contains(l, place) {
				t.Fatalf("Places of %v up to %d: %v, but %d", rule, most, l, place)
			}
		}
		if !slices.IsSorted(l) || len(l) > 0 && l[len(l)-1] > most {
			t.Fatalf("Places of %v up to %d: %v", rule, most, l)
		}
	}
}
