package weigh

import "tusche/api"

// draft is, for each stone, what a plan shows if it is heavier.
type draft [][]int

// Plan returns a plan that tells all cases.
func Plan(stones, weighings int) ([]Weighing, api.Errno) {
	if !within(stones, 1, MaxStones) || !within(weighings, 0, MaxWeighings) {
		return nil, api.ErrSize
	}
	d := make(draft, stones)
	if !d.complete(0, weighings, 0) {
		return nil, api.ErrLost
	}
	return d.plan(weighings), api.OK
}

// complete reports whether a draft, whose first stones are decided, can be completed to a plan that tells all cases, and completes it.
//
// Such a plan shows something else for each stone, and never just the negated list, which it shows if a stone is lighter. So at most one list of each pair of negated ones is used. The stones can get them in ascending order of the pairs; from is the first pair that is left.
func (d draft) complete(decided, weighings, from int) bool {
	if decided == len(d) {
		return CheckPlan(len(d), d.plan(weighings)) == api.OK
	}
	pairs := half(weighings)
	for pair := from; pairs-pair >= len(d)-decided; pair++ {
		for _, number := range [...]int{pair, 2*pairs - pair} {
			d[decided] = signs(weighings, number)
			if d.complete(decided+1, weighings, pair+1) {
				return true
			}
		}
	}
	return false
}

// plan returns the weighings of a draft, which need not be a valid plan.
func (d draft) plan(weighings int) []Weighing {
	plan := make([]Weighing, weighings)
	for stone, shown := range d {
		for i, side := range shown {
			switch side {
			case -1:
				plan[i].Left = append(plan[i].Left, stone)
			case 1:
				plan[i].Right = append(plan[i].Right, stone)
			}
		}
	}
	return plan
}
