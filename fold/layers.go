package fold

import (
	"slices"
	"strings"

	"tusche/api"
)

// Lies checks a folding.
func Lies(s Strip, order []int) api.Errno {
	if e := Check(s); e != api.OK {
		return e
	}
	if len(order) != len(s.Lengths) {
		return api.ErrForm
	}
	for i, segment := range order {
		if segment < 0 || segment >= len(order) {
			return api.ErrNone
		}
		if slices.Contains(order[:i], segment) {
			return api.ErrAgain
		}
	}
	p := newPile(s.Lengths, s.Folds)
	for _, segment := range order {
		if !slices.Contains(p.fitting(), segment) {
			return api.ErrProof
		}
		p = p.with(segment)
	}
	return api.OK
}

// Order returns the smallest folding.
func Order(s Strip) ([]int, api.Errno) {
	if e := Check(s); e != api.OK {
		return nil, e
	}
	var smallest []int
	newPile(s.Lengths, s.Folds).foldings(func(order []int) bool {
		smallest = slices.Clone(order)
		return false
	})
	if smallest == nil {
		return nil, api.ErrLost
	}
	return smallest, api.OK
}

// Count returns the number of foldings.
func Count(s Strip) (int, api.Errno) {
	if e := Check(s); e != api.OK {
		return 0, e
	}
	return count(newPile(s.Lengths, s.Folds)), api.OK
}

// All returns the number of foldings of all strips with some lengths. The layers of a folding tell the folds, so none of them is a folding of two strips.
func All(lengths []int) (int, api.Errno) {
	if e := checkLengths(lengths); e != api.OK {
		return 0, e
	}
	return count(newPile(lengths, strings.Repeat(string(either), len(lengths)-1))), api.OK
}

// count returns the number of foldings that a pile can become.
func count(p pile) int {
	n := 0
	p.foldings(func([]int) bool {
		n++
		return true
	})
	return n
}
