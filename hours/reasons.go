package hours

import "tusche/api"

// kind is a kind of reasons: how many of them a work has, and the bound of each.
type kind struct {
	size  func(work [][]int) int
	bound func(work [][]int, seats, index int) int
}

// kinds returns the kinds of reasons, each at the place that is its Kind.
func kinds() [3]kind {
	return [...]kind{
		Artist: {
			size:  func(work [][]int) int { return len(work) },
			bound: func(work [][]int, _, index int) int { return rowSum(work[index]) },
		},
		Machine: {
			size:  func(work [][]int) int { return len(work[0]) },
			bound: func(work [][]int, _, index int) int { return columnSum(work, index) },
		},
		Seats: {
			size:  func([][]int) int { return 1 },
			bound: func(work [][]int, seats, _ int) int { return shared(total(work), seats) },
		},
	}
}

// Shortest returns the shortest length.
func Shortest(work [][]int, seats int) (int, api.Errno) {
	if e := checkSeats(work, seats); e != api.OK {
		return 0, e
	}
	return shortest(work, seats), api.OK
}

// Why returns a reason why no plan is shorter.
func Why(work [][]int, seats int) (Reason, api.Errno) {
	if e := checkSeats(work, seats); e != api.OK {
		return Reason{}, e
	}
	reasons := reasonsOf(work)
	length := shortest(work, seats)
	first := 0
	for boundOf(work, seats, reasons[first]) < length {
		first++
	}
	return reasons[first], api.OK
}

// Bound returns the bound of a reason.
func Bound(work [][]int, seats int, r Reason) (int, api.Errno) {
	if e := checkSeats(work, seats); e != api.OK {
		return 0, e
	}
	if !within(r.Kind, len(kinds())) || !within(r.Index, kinds()[r.Kind].size(work)) {
		return 0, api.ErrNone
	}
	return boundOf(work, seats, r), api.OK
}

// reasonsOf returns all reasons of a work, in order.
func reasonsOf(work [][]int) []Reason {
	var reasons []Reason
	for number, k := range kinds() {
		for index := range k.size(work) {
			reasons = append(reasons, Reason{Kind: number, Index: index})
		}
	}
	return reasons
}

// boundOf returns the bound of a reason of a work.
func boundOf(work [][]int, seats int, r Reason) int {
	return kinds()[r.Kind].bound(work, seats, r.Index)
}

// shortest returns the shortest length: the greatest bound, since Plan finds a plan that is no longer.
func shortest(work [][]int, seats int) int {
	return gathered(reasonsOf(work), func(most int, r Reason) int { return max(most, boundOf(work, seats, r)) })
}
