package rack

import (
	"slices"

	"tusche/api"
)

// Stiff returns whether a rack is stiff.
func Stiff(r Rack) (bool, api.Errno) {
	if e := Check(r); e != api.OK {
		return false, e
	}
	return isStiff(r), api.OK
}

// Groups returns the rows and columns that keep together.
func Groups(r Rack) ([]Group, api.Errno) {
	if e := Check(r); e != api.OK {
		return nil, e
	}
	return groupsOf(r), api.OK
}

// Needed returns the braces that a stiff rack cannot do without.
func Needed(r Rack) ([]int, api.Errno) {
	if e := Check(r); e != api.OK {
		return nil, e
	}
	if !isStiff(r) {
		return nil, api.ErrOpen
	}
	var needed []int
	for i := range r.Braces {
		other := r
		other.Braces = slices.Concat(r.Braces[:i], r.Braces[i+1:])
		if !isStiff(other) {
			needed = append(needed, i)
		}
	}
	return needed, api.OK
}

// isStiff reports whether a rack is stiff.
func isStiff(r Rack) bool {
	return len(groupsOf(r)) == 1
}

// groupsOf returns the groups of a rack, in order.
func groupsOf(r Rack) []Group {
	a := arrowsOf(r)
	together := a.together
	var grouped [2 * MaxSide]bool
	var groups []Group
	for place := range a.places() {
		if grouped[place] {
			continue
		}
		var g Group
		for other := range a.places() {
			if !together(place, other) {
				continue
			}
			grouped[other] = true
			if other < a.Rows {
				g.Rows = append(g.Rows, other)
			} else {
				g.Columns = append(g.Columns, other-a.Rows)
			}
		}
		groups = append(groups, g)
	}
	return groups
}
