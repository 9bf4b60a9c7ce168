package mark

import (
	"iter"
	"slices"

	"tusche/api"
)

// Fewest returns the smallest coalition that can make a copy.
func Fewest(c Code, word []int) ([]int, api.Errno) {
	if e := checkCopy(c, word); e != api.OK {
		return nil, e
	}
	for coalition := range allCoalitions(len(c.Words), MaxCustomers) {
		if canMake(c, coalition, word) {
			return coalition, api.OK
		}
	}
	return nil, api.ErrLost
}

// Lean returns all lean coalitions for a copy.
func Lean(c Code, word []int, size int) ([][]int, api.Errno) {
	if e := checkCopy(c, word); e != api.OK {
		return nil, e
	}
	if e := checkSize(size); e != api.OK {
		return nil, e
	}
	var lean [][]int
	for coalition := range allCoalitions(len(c.Words), size) {
		if isLean(c, coalition, word) {
			lean = append(lean, coalition)
		}
	}
	slices.SortFunc(lean, slices.Compare[[]int])
	return lean, api.OK
}

// Guilty returns the customers without whom a copy cannot be made. Lean coalitions are enough to tell, since each coalition that can make it has all members of a lean one.
func Guilty(c Code, word []int, size int) ([]int, api.Errno) {
	lean, e := Lean(c, word, size)
	switch {
	case e != api.OK:
		return nil, e
	case len(lean) == 0:
		return nil, api.ErrLost
	}
	return membersOfAll(lean), api.OK
}

// Frames returns a coalition that frames a customer.
func Frames(c Code, size int) (coalition []int, customer int, e api.Errno) {
	if e := Check(c); e != api.OK {
		return nil, 0, e
	}
	if e := checkSize(size); e != api.OK {
		return nil, 0, e
	}
	for coalition := range allCoalitions(len(c.Words), size) {
		for customer, word := range c.Words {
			if !slices.Contains(coalition, customer) && canMake(c, coalition, word) {
				return coalition, customer, api.OK
			}
		}
	}
	return nil, 0, api.ErrNone
}

// checkCoalition returns the error of a coalition for a valid code.
func checkCoalition(c Code, coalition []int) api.Errno {
	if len(coalition) == 0 {
		return api.ErrEmpty
	}
	for i, customer := range coalition {
		switch {
		case customer < 0 || customer >= len(c.Words):
			return api.ErrNone
		case i > 0 && customer <= coalition[i-1]:
			return api.ErrOrder
		}
	}
	return api.OK
}

// isLean reports whether a coalition can make a word, but not without any single one of its members.
func isLean(c Code, coalition, word []int) bool {
	for i := range coalition {
		others := slices.Concat(coalition[:i], coalition[i+1:])
		if canMake(c, others, word) {
			return false
		}
	}
	return canMake(c, coalition, word)
}

// membersOfAll returns all customers, in ascending order, that are members of each one of some coalitions.
func membersOfAll(coalitions [][]int) []int {
	times := map[int]int{} // by customers: of how many coalitions they are members
	for _, coalition := range coalitions {
		for _, customer := range coalition {
			times[customer]++
		}
	}
	var members []int
	for customer, number := range times {
		if number == len(coalitions) {
			members = append(members, customer)
		}
	}
	slices.Sort(members)
	return members
}

// allCoalitions yields all coalitions with at most so many members: those with fewer members first, and those with equally many in ascending order.
func allCoalitions(customers, most int) iter.Seq[[]int] {
	return func(yield func([]int) bool) {
		for size := 1; size <= most; size++ {
			for coalition := range coalitionsOf(customers, size) {
				if !yield(coalition) {
					return
				}
			}
		}
	}
}

// coalitionsOf yields all coalitions with just so many members, in ascending order, each in memory of its own.
func coalitionsOf(customers, size int) iter.Seq[[]int] {
	return func(yield func([]int) bool) {
		coalition := make([]int, size)
		countUp(coalition, 0)
		for more := size <= customers; more; more = advance(coalition, customers) {
			if !yield(slices.Clone(coalition)) {
				return
			}
		}
	}
}

// advance makes a coalition the next one with equally many members, and reports whether there is one.
func advance(coalition []int, customers int) bool {
	greatest := customers - 1
	for i := len(coalition) - 1; i >= 0; i-- {
		if coalition[i] < greatest {
			countUp(coalition[i:], coalition[i]+1)
			return true
		}
		greatest--
	}
	return false
}

// countUp makes members those that follow each other, beginning with one.
func countUp(members []int, from int) {
	for i := range members {
		members[i] = from + i
	}
}
