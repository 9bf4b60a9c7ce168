package cross

import (
	"slices"

	"tusche/api"
)

// Places returns where a cross can be added.
func Places(rule []int, most int) ([]int, api.Errno) {
	e := Check(rule)
	switch {
	case e != api.OK:
		return nil, e
	case !isClear(rule):
		return nil, api.ErrProof
	case len(rule) == MaxCrosses:
		return nil, api.ErrMany
	case !within(most, 0, MaxPlace):
		return nil, api.ErrBounds
	}
	var places []int
	for place := range most + 1 {
		if !slices.Contains(rule, place) && isClear(with(rule, place)) {
			places = append(places, place)
		}
	}
	return places, api.OK
}

// with returns a rule with a place that it does not have yet. The part before this place is taken with its own capacity, so that nothing is written behind it in the rule.
func with(rule []int, place int) []int {
	at, _ := slices.BinarySearch(rule, place)
	longer := append(rule[:at:at], place)
	return append(longer, rule[at:]...)
}
