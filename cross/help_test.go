package cross_test

import (
	"slices"
	"testing"

	"tusche/api"
	"tusche/cross"
)

func list(l ...int) []int { return l }

// pair is two numbers of crosses.
type pair = [2]int

// chance returns a function whose numbers follow from one number, and from no rule otherwise.
func chance(number int) func(limit int) int {
	state := uint32(number)
	return func(limit int) int {
		state = state*1664525 + 1013904223
		return int(state>>16) % limit
	}
}

// pairsOf returns all pairs of a rule, in their order.
func pairsOf(rule []int) []pair {
	var all []pair
	for i := range rule {
		for k := range rule {
			if i < k {
				all = append(all, pair{i, k})
			}
		}
	}
	return all
}

// arrowsOf returns all arrows of a rule, in their order.
func arrowsOf(rule []int) []pair {
	var all []pair
	for i := range rule {
		for k := range rule {
			if i != k {
				all = append(all, pair{i, k})
			}
		}
	}
	return all
}

// distance is the chapter's definition, for a pair of a rule.
func distance(rule []int, p pair) int { return rule[p[1]] - rule[p[0]] }

// way is the chapter's definition, for an arrow of a rule.
func way(rule []int, size int, arrow pair) int {
	w := rule[arrow[1]] - rule[arrow[0]]
	if w < 0 {
		w += size
	}
	return w
}

// isClear is the chapter's definition.
func isClear(rule []int) bool {
	var met [61]bool
	for i, place := range rule {
		for _, before := range rule[:i] {
			if met[place-before] {
				return false
			}
			met[place-before] = true
		}
	}
	return true
}

// isClearAround is the chapter's definition.
func isClearAround(rule []int, size int) bool {
	var met [60]bool
	for i, place := range rule {
		for k, other := range rule {
			if i == k {
				continue
			}
			w := place - other
			if w < 0 {
				w += size
			}
			if met[w] {
				return false
			}
			met[w] = true
		}
	}
	return true
}

// everyRule returns all rules with so many crosses from a least place to a greatest one, in ascending order.
func everyRule(crosses, least, most int) [][]int {
	var all [][]int
	eachRule(crosses, least, most, func(rule []int) bool {
		all = append(all, slices.Clone(rule))
		return true
	})
	return all
}

// eachRule passes on all rules with so many crosses from a least place to a greatest one, in ascending order, until it is told to stop. It reports whether it went through all.
func eachRule(crosses, least, most int, pass func(rule []int) bool) bool {
	rule := make([]int, crosses)
	var rest func(at, from int) bool
	rest = func(at, from int) bool {
		if at == crosses {
			return pass(rule)
		}
		for place := from; place <= most; place++ {
			rule[at] = place
			if !rest(at+1, place+1) {
				return false
			}
		}
		return true
	}
	return rest(0, least)
}

// smallRules returns all rules up to some small places.
func smallRules() [][]int {
	return slices.Concat(everyRule(2, 0, 12), everyRule(3, 0, 12), everyRule(4, 0, 11), everyRule(5, 0, 10), everyRule(6, 0, 9), everyRule(7, 0, 9), everyRule(8, 0, 9))
}

// mixed returns a rule with so many crosses, up to a place.
func mixed(crosses, most, number int) []int {
	next := chance(number)
	var rule []int
	for len(rule) < crosses {
		place := next(most + 1)
		if !slices.Contains(rule, place) {
			rule = append(rule, place)
		}
	}
	slices.Sort(rule)
	return rule
}

// mixedRules returns rules of all numbers of crosses, some of them near each other.
func mixedRules() [][]int {
	var all [][]int
	for crosses := 2; crosses <= cross.MaxCrosses; crosses++ {
		for number := range 60 {
			most := []int{cross.MaxPlace, crosses * crosses / 2, 30, 60 - number/2}[number%4]
			all = append(all, mixed(crosses, max(most, crosses), 100*crosses+number))
		}
	}
	return all
}

// clearRules returns rules of all numbers of crosses that are clear, also the longest ones, and those that are as short as they can be.
func clearRules() [][]int {
	all := [][]int{list(0, 60), list(59, 60), list(0, 1, 60), list(0, 59, 60), list(0, 1, 4, 9, 15, 22, 32, 34), list(0, 1, 3, 7, 12, 20, 30, 44), list(0, 1, 4, 10, 18, 23, 25), list(35, 37, 42, 50, 56, 59, 60), list(0, 2, 5, 25, 37, 43, 59, 60), list(0, 1, 4, 10, 12, 17), list(0, 1, 4, 9, 11)}
	for crosses := 2; crosses <= cross.MaxCrosses; crosses++ {
		for number := range 20 {
			all = append(all, grown(crosses, crosses*1000+number))
		}
	}
	return all
}

// grown returns a clear rule with so many crosses, to which crosses were added at any places.
func grown(crosses, number int) []int {
	next := chance(number)
	for {
		var rule []int
		for range 400 {
			longer := added(rule, next(cross.MaxPlace+1))
			if len(longer) > len(rule) && isClear(longer) {
				rule = longer
			}
			if len(rule) == crosses {
				return rule
			}
		}
	}
}

// rules returns rules of all kinds.
func rules() [][]int {
	return slices.Concat(smallRules(), mixedRules(), clearRules())
}

// added returns a rule with a place in addition, if it does not have it yet.
func added(rule []int, place int) []int {
	longer := append(slices.Clone(rule), place)
	slices.Sort(longer)
	return slices.Compact(longer)
}

// shifted returns a rule with all places shifted.
func shifted(rule []int, shift int) []int {
	var all []int
	for _, place := range rule {
		all = append(all, place+shift)
	}
	return all
}

// mirrored returns a rule that is mirrored.
func mirrored(rule []int) []int {
	var all []int
	for _, place := range rule {
		all = append(all, 60-place)
	}
	slices.Reverse(all)
	return all
}

// lengthOf is the chapter's definition.
func lengthOf(rule []int) int { return rule[len(rule)-1] - rule[0] }

// The functions, for arguments with which there is no error.

func distances(t *testing.T, rule []int) []int {
	t.Helper()
	l, e := cross.Distances(rule)
	if e != api.OK {
		t.Fatalf("Distances of %v: %d", rule, e)
	}
	return l
}

func missing(t *testing.T, rule []int) []int {
	t.Helper()
	l, e := cross.Missing(rule)
	if e != api.OK {
		t.Fatalf("Missing of %v: %d", rule, e)
	}
	return l
}

func common(t *testing.T, rule []int, shift int) int {
	t.Helper()
	n, e := cross.Common(rule, shift)
	if e != api.OK {
		t.Fatalf("Common of %v at %d: %d", rule, shift, e)
	}
	return n
}

func locate(t *testing.T, rule []int, width int, seen []int) []int {
	t.Helper()
	l, e := cross.Locate(rule, width, seen)
	if e != api.OK {
		t.Fatalf("Locate on %v, width %d: %v: %d", rule, width, seen, e)
	}
	return l
}

func places(t *testing.T, rule []int, most int) []int {
	t.Helper()
	l, e := cross.Places(rule, most)
	if e != api.OK {
		t.Fatalf("Places of %v up to %d: %d", rule, most, e)
	}
	return l
}

func shortest(t *testing.T, crosses int) []int {
	t.Helper()
	l, e := cross.Shortest(crosses)
	if e != api.OK {
		t.Fatalf("Shortest of %d: %d", crosses, e)
	}
	return l
}

// saysClear reports what Twice says of a rule.
func saysClear(t *testing.T, rule []int) bool {
	t.Helper()
	_, _, e := cross.Twice(rule)
	if e != api.OK && e != api.ErrNone {
		t.Fatalf("Twice of %v: %d", rule, e)
	}
	return e == api.ErrNone
}

// saysClearAround reports what Around says of a rule.
func saysClearAround(t *testing.T, rule []int, size int) bool {
	t.Helper()
	_, _, e := cross.Around(rule, size)
	if e != api.OK && e != api.ErrNone {
		t.Fatalf("Around of %v, roller %d: %d", rule, size, e)
	}
	return e == api.ErrNone
}
