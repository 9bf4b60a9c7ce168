package cross

import "tusche/api"

// Shortest returns a shortest rule.
func Shortest(crosses int) ([]int, api.Errno) {
	if !within(crosses, 2, MaxShort) {
		return nil, api.ErrBounds
	}
	var rule []int
	for most := crosses * (crosses - 1) / 2; rule == nil; most++ { // no clear rule is shorter (P11.9)
		rule = search(crosses, most, isClear)
	}
	return rule, api.OK
}

// Best checks whether a rule is a shortest one.
func Best(rule []int) api.Errno {
	e := Check(rule)
	switch {
	case e != api.OK:
		return e
	case len(rule) > MaxShort:
		return api.ErrMany
	case !isClear(rule):
		return api.ErrProof
	case search(len(rule), length(rule)-1, isClear) != nil:
		return api.ErrLost
	}
	return api.OK
}

// Roller returns a rule that is clear around a roller.
func Roller(crosses, size int) ([]int, api.Errno) {
	if !within(crosses, 2, MaxRoller) || !within(size, 2, MaxSize) {
		return nil, api.ErrBounds
	}
	// The first one has a cross at 0, since rules can be turned around a roller (P11.12).
	rule := search(crosses, size-1, func(rule []int) bool { return isClearAround(rule, size) })
	if rule == nil {
		return nil, api.ErrLost
	}
	return rule, api.OK
}

// search returns the first rule that fits, with so many crosses at places from 0 to most, the first one at 0; nil if there is none. If a rule fits, so must all that it begins with (P11.11).
func search(crosses, most int, fits func(rule []int) bool) []int {
	rule := make([]int, crosses)
	decided, place := 1, 1 // so many crosses stand, and the next one can stand from this place on
decide:
	for ; decided < crosses && place <= most; place++ {
		rule[decided] = place
		if fits(rule[:decided+1]) {
			decided++
		}
	}
	switch decided {
	case crosses:
		return rule
	case 1:
		return nil
	}
	decided--
	place = rule[decided] + 1
	goto decide
}
