package weigh

import (
	"slices"

	"tusche/api"
)

// CheckPlan returns the error of a plan.
func CheckPlan(stones int, plan []Weighing) api.Errno {
	switch {
	case !within(stones, 1, MaxStones):
		return api.ErrSize
	case len(plan) > MaxWeighings:
		return api.ErrMany
	}
	for _, w := range plan {
		if e := checkWeighing(stones, w); e != api.OK {
			return e
		}
	}
	return api.OK
}

// Shows returns what a plan shows in a case.
func Shows(stones int, plan []Weighing, odd, way int) ([]int, api.Errno) {
	e := CheckPlan(stones, plan)
	switch {
	case e != api.OK:
		return nil, e
	case !within(odd, 0, stones-1):
		return nil, api.ErrNone
	case !within(way, -1, 1):
		return nil, api.ErrSize
	}
	return show(plan, [2]int{odd, way}), api.OK
}

// Twins returns the first two cases in which a plan shows the same.
func Twins(stones int, plan []Weighing) (a, b [2]int, e api.Errno) {
	if e := CheckPlan(stones, plan); e != api.OK {
		return a, b, e
	}
	for number := range cases(stones) {
		first := caseOf(number)
		shown := show(plan, first)
		for later := range cases(stones) - number - 1 {
			second := caseOf(number + 1 + later)
			if slices.Equal(show(plan, second), shown) {
				return first, second, api.OK
			}
		}
	}
	return a, b, api.ErrLost
}

// Left returns all cases in which a plan shows something.
func Left(stones int, plan []Weighing, shown []int) ([][2]int, api.Errno) {
	if e := CheckPlan(stones, plan); e != api.OK {
		return nil, e
	}
	if !areSigns(shown, len(plan)) {
		return nil, api.ErrForm
	}
	var left [][2]int
	for number := range cases(stones) {
		if c := caseOf(number); slices.Equal(show(plan, c), shown) {
			left = append(left, c)
		}
	}
	return left, api.OK
}

// checkWeighing returns the error of a weighing of stones.
func checkWeighing(stones int, w Weighing) api.Errno {
	switch {
	case len(w.Left) == 0 || len(w.Right) == 0:
		return api.ErrEmpty
	case len(w.Left) != len(w.Right):
		return api.ErrForm
	}
	if e := checkPan(stones, w.Left); e != api.OK {
		return e
	}
	return checkPan(stones, w.Right, w.Left)
}

// checkPan returns the error of the first stone of a pan with an error. No stone is to lie on one of the others.
func checkPan(stones int, pan []int, others ...[]int) api.Errno {
	for i, stone := range pan {
		switch {
		case !within(stone, 0, stones-1):
			return api.ErrNone
		case i > 0 && stone <= pan[i-1]:
			return api.ErrOrder
		case count(stone, others...) > 0:
			return api.ErrAgain
		}
	}
	return api.OK
}

// cases returns how many cases there are.
func cases(stones int) int {
	return 2*stones + 1
}

// caseOf returns a case by its number in the order of cases, as a stone and a way.
func caseOf(number int) [2]int {
	switch {
	case number == 0:
		return [2]int{}
	case number%2 == 1:
		return [2]int{number / 2, 1}
	}
	return [2]int{number/2 - 1, -1}
}

// show returns what a plan shows in a case.
func show(plan []Weighing, c [2]int) []int {
	odd, way := c[0], c[1]
	var shown []int
	for _, w := range plan {
		shown = append(shown, way*(count(odd, w.Right)-count(odd, w.Left)))
	}
	return shown
}
