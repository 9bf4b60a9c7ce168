package hours

import (
	"slices"

	"tusche/api"
)

// Plan returns a plan of the shortest length.
func Plan(work [][]int, seats int) ([]Step, api.Errno) {
	if e := checkSeats(work, seats); e != api.OK {
		return nil, e
	}
	length := shortest(work, seats)
	t := tableOf(work, seats, length)
	left := copied(work)
	var plan []Step
	for range length {
		at := takeHour(left, t.next())
		if last := len(plan) - 1; last >= 0 && slices.Equal(plan[last].At, at) {
			plan[last].Hours++
		} else {
			plan = append(plan, Step{Hours: 1, At: at})
		}
	}
	return plan, api.OK
}

// Length returns the length of a plan.
func Length(work [][]int, seats int, plan []Step) (int, api.Errno) {
	if e := checkPlan(work, seats, plan); e != api.OK {
		return 0, e
	}
	return lengthOf(plan), api.OK
}

// Verify checks whether a plan has the shortest length.
func Verify(work [][]int, seats int, plan []Step) api.Errno {
	if e := checkPlan(work, seats, plan); e != api.OK {
		return e
	}
	if lengthOf(plan) > shortest(work, seats) {
		return api.ErrLost
	}
	return api.OK
}

// takeHour takes an hour from the work that is left, and returns where artists work in it: at the columns of their rows, if these are machines at which they have hours left.
func takeHour(left [][]int, columns []int) []int {
	at := make([]int, len(left))
	for artist, row := range left {
		at[artist] = Idle
		if machine := columns[artist]; within(machine, len(row)) && row[machine] > 0 {
			row[machine]--
			at[artist] = machine
		}
	}
	return at
}

// serves reports whether a plan with valid steps serves a work.
func serves(plan []Step, work [][]int) bool {
	left := copied(work)
	for _, step := range plan {
		for artist, machine := range step.At {
			if machine != Idle {
				left[artist][machine] -= step.Hours
			}
		}
	}
	for _, row := range left {
		for _, hours := range row {
			if hours != 0 {
				return false
			}
		}
	}
	return true
}

// lengthOf returns the length of a plan.
func lengthOf(plan []Step) int {
	return gathered(plan, func(sum int, step Step) int { return sum + step.Hours })
}

// copied returns a copy of rows, which can be changed.
func copied(rows [][]int) [][]int {
	all := make([][]int, len(rows))
	for i, row := range rows {
		all[i] = make([]int, len(row))
		copy(all[i], row)
	}
	return all
}
