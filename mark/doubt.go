package mark

import (
	"iter"
	"slices"

	"tusche/api"
)

// maxSuspects is how many members a coalition of a doubt has at most.
const maxSuspects = 2

// Doubtful returns a doubt.
func Doubtful(c Code) (Doubt, api.Errno) {
	if e := Check(c); e != api.OK {
		return Doubt{}, e
	}
	for coalitions := range suspects(len(c.Words)) {
		if word, is := commonCopy(c, coalitions); is {
			return Doubt{Copy: word, Coalitions: coalitions}, api.OK
		}
	}
	return Doubt{}, api.ErrLost
}

// Verify checks a doubt.
func Verify(c Code, d Doubt) api.Errno {
	if e := checkCopy(c, d.Copy); e != api.OK {
		return e
	}
	switch {
	case len(d.Coalitions) == 0:
		return api.ErrEmpty
	case len(d.Coalitions) > MaxCustomers:
		return api.ErrMany
	}
	for _, coalition := range d.Coalitions {
		if e := checkSuspects(c, d.Copy, coalition); e != api.OK {
			return e
		}
	}
	if len(membersOfAll(d.Coalitions)) > 0 {
		return api.ErrClash
	}
	return api.OK
}

// checkSuspects returns the error of a coalition of a doubt.
func checkSuspects(c Code, word, coalition []int) api.Errno {
	if e := checkCoalition(c, coalition); e != api.OK {
		return e
	}
	switch {
	case len(coalition) > maxSuspects:
		return api.ErrMany
	case !canMake(c, coalition, word):
		return api.ErrProof
	}
	return api.OK
}

// suspects yields lists of coalitions of which a doubt can consist: all of two coalitions, and all of the three pairs of three customers. No others are needed (P9.8).
func suspects(customers int) iter.Seq[[][]int] {
	return func(yield func([][]int) bool) {
		small := slices.Collect(allCoalitions(customers, maxSuspects))
		for i, one := range small {
			for _, other := range small[i+1:] {
				two := [][]int{one, other}
				if len(membersOfAll(two)) == 0 && !yield(two) {
					return
				}
			}
		}
		for three := range coalitionsOf(customers, 3) {
			if !yield(pairs(three[0], three[1], three[2])) {
				return
			}
		}
	}
}

// pairs returns the three pairs of three customers.
func pairs(a, b, c int) [][]int {
	return [][]int{{a, b}, {a, c}, {b, c}}
}

// commonCopy returns a copy that all of some coalitions can make, and whether there is one. At each place it has the mark of the first member of the first coalition that will do, so that the names of marks have no influence.
func commonCopy(c Code, coalitions [][]int) ([]int, bool) {
	first := coalitions[0]
	common := setsOf(c, first)
	for _, coalition := range coalitions[1:] {
		common = common.and(setsOf(c, coalition))
	}
	var word []int
	for place := range c.Words[0] {
		i := slices.IndexFunc(first, func(customer int) bool { return common.has(place, c.Words[customer][place]) })
		if i < 0 {
			return nil, false
		}
		word = append(word, c.Words[first[i]][place])
	}
	return word, true
}
