package weigh_test

import (
	"slices"
	"testing"

	"tusche/api"
	"tusche/weigh"
)

func list(l ...int) []int { return l }

// situation is a stone and a way: a case.
type situation = [2]int

// against returns a weighing of one stone against another one.
func against(left, right int) weigh.Weighing {
	return weigh.Weighing{Left: list(left), Right: list(right)}
}

func plan(weighings ...weigh.Weighing) []weigh.Weighing { return weighings }

// chance returns a function whose numbers follow from one number, and from no rule otherwise.
func chance(number int) func(limit int) int {
	state := uint32(number)
	return func(limit int) int {
		state = state*1664525 + 1013904223
		return int(state>>16) % limit
	}
}

// everySet returns all sets of so many weights up to a greatest one.
func everySet(size, most int) [][]int {
	all := [][]int{nil}
	for range size {
		var longer [][]int
		for _, set := range all {
			least := 1
			if len(set) > 0 {
				least = set[len(set)-1]
			}
			for weight := least; weight <= most; weight++ {
				longer = append(longer, append(slices.Clone(set), weight))
			}
		}
		all = longer
	}
	return all
}

// smallSets returns all sets of some small sizes.
func smallSets() [][]int {
	return slices.Concat(everySet(1, 15), everySet(2, 10), everySet(3, 7), everySet(4, 5), everySet(5, 3), everySet(6, 2), everySet(7, 2))
}

// greatSets returns sets of all sizes, up to the greatest weights.
func greatSets() [][]int {
	all := [][]int{
		list(2000), slices.Repeat(list(2000), 7), slices.Repeat(list(1), 7), list(1, 2000), list(1999, 2000),
		list(1, 3, 9, 27, 81, 243, 729), list(1, 2, 4, 8, 16, 32, 64), list(2, 6, 18, 54, 162, 486, 1458),
		list(1, 2, 3, 4, 5, 6, 7), list(1, 1, 3, 3, 9, 9, 27), list(5, 5, 5, 10, 10, 2000, 2000), list(1, 3, 9, 27, 81, 243, 2000),
	}
	for number := range 42 {
		next := chance(number)
		var set []int
		for range 1 + number%weigh.MaxWeights {
			set = append(set, 1+next([]int{2000, 30, 9, 400}[number%4]))
		}
		slices.Sort(set)
		all = append(all, set)
	}
	return all
}

func sets() [][]int { return append(smallSets(), greatSets()...) }

// everyLaying returns all layings of so many weights, in no order that means anything.
func everyLaying(size int) [][]int {
	all := [][]int{nil}
	for range size {
		var longer [][]int
		for _, laying := range all {
			for _, number := range list(-1, 0, 1) {
				longer = append(longer, append(slices.Clone(laying), number))
			}
		}
		all = longer
	}
	return all
}

// loadOf is the chapter's definition: what a laying balances.
func loadOf(weights, laying []int) int {
	far, near := 0, 0 // what lies on the pan opposite to the stone, and beside it
	for i, weight := range weights {
		switch laying[i] {
		case 1:
			far += weight
		case -1:
			near += weight
		}
	}
	return far - near
}

// balanced returns all loads that can be weighed, also 0 and those below it: each weight in turn is laid on the pans in its three ways.
func balanced(weights []int) map[int]bool {
	all := map[int]bool{0: true}
	for _, weight := range weights {
		more := map[int]bool{}
		for load := range all {
			more[load-weight], more[load], more[load+weight] = true, true, true
		}
		all = more
	}
	return all
}

// reachOf is the chapter's definition.
func reachOf(weights []int) int {
	can := balanced(weights)
	n := 0
	for can[n+1] {
		n++
	}
	return n
}

// total returns the sum of numbers.
func total(numbers []int) int {
	sum := 0
	for _, number := range numbers {
		sum += number
	}
	return sum
}

// everyCase returns all cases, in their order.
func everyCase(stones int) []situation {
	all := []situation{{0, 0}}
	for stone := range stones {
		all = append(all, situation{stone, 1}, situation{stone, -1})
	}
	return all
}

// seen is the chapter's definition of what a plan shows in a case: with stones that weigh 100, but the odd one 101 or 99.
func seen(plan []weigh.Weighing, c situation) []int {
	heaviness := func(pan []int) int {
		sum := 0
		for _, stone := range pan {
			sum += 100
			if stone == c[0] {
				sum += c[1]
			}
		}
		return sum
	}
	var all []int
	for _, w := range plan {
		left, right := heaviness(w.Left), heaviness(w.Right)
		switch {
		case left > right:
			all = append(all, -1)
		case right > left:
			all = append(all, 1)
		default:
			all = append(all, 0)
		}
	}
	return all
}

// tells is the chapter's definition: whether no two cases show the same.
func tells(stones int, plan []weigh.Weighing) bool {
	all := everyCase(stones)
	for i, c := range all {
		for _, other := range all[:i] {
			if slices.Equal(seen(plan, c), seen(plan, other)) {
				return false
			}
		}
	}
	return true
}

// everyWeighing returns all weighings of so many stones.
func everyWeighing(stones int) []weigh.Weighing {
	var all []weigh.Weighing
	for _, sides := range everyLaying(stones) {
		var w weigh.Weighing
		for stone, side := range sides {
			switch side {
			case -1:
				w.Left = append(w.Left, stone)
			case 1:
				w.Right = append(w.Right, stone)
			}
		}
		if len(w.Left) == len(w.Right) && len(w.Left) > 0 {
			all = append(all, w)
		}
	}
	return all
}

// everyPlan returns all plans of so many weighings.
func everyPlan(stones, weighings int) [][]weigh.Weighing {
	all := [][]weigh.Weighing{nil}
	for range weighings {
		var longer [][]weigh.Weighing
		for _, p := range all {
			for _, w := range everyWeighing(stones) {
				longer = append(longer, append(slices.Clone(p), w))
			}
		}
		all = longer
	}
	return all
}

// mixed returns a plan of so many weighings, for at least 2 stones.
func mixed(stones, weighings, number int) []weigh.Weighing {
	next := chance(number)
	var p []weigh.Weighing
	for range weighings {
		order := shuffled(stones, next)
		size := 1 + next(stones/2)
		w := weigh.Weighing{Left: order[:size:size], Right: order[size : 2*size : 2*size]}
		slices.Sort(w.Left)
		slices.Sort(w.Right)
		p = append(p, w)
	}
	return p
}

// shuffled returns the numbers of stones in some order.
func shuffled(stones int, next func(limit int) int) []int {
	var order []int
	for stone := range stones {
		order = slices.Insert(order, next(stone+1), stone)
	}
	return order
}

// trial is a plan for so many stones.
type trial struct {
	stones int
	plan   []weigh.Weighing
}

// trials returns plans for all numbers of stones: all for small ones, some of which tell all cases, and others.
func trials() []trial {
	all := []trial{{1, nil}, {13, nil}}
	for stones := 2; stones <= 4; stones++ {
		for weighings := range 3 {
			for _, p := range everyPlan(stones, weighings) {
				all = append(all, trial{stones, p})
			}
		}
	}
	for _, p := range everyPlan(3, 3) {
		all = append(all, trial{3, p})
	}
	for stones := 2; stones <= weigh.MaxStones; stones++ {
		for number := range 40 {
			all = append(all, trial{stones, mixed(stones, 3-number%7/5, 100*stones+number)})
		}
	}
	return append(all, telling()...)
}

// telling returns plans that tell all cases, made by the package.
func telling() []trial {
	var all []trial
	for weighings := range weigh.MaxWeighings + 1 {
		for stones := 1; stones <= weigh.MaxStones; stones++ {
			if p, e := weigh.Plan(stones, weighings); e == api.OK {
				all = append(all, trial{stones, p})
			}
		}
	}
	return all
}

// sameWeighings reports whether two plans are the same.
func sameWeighings(a, b []weigh.Weighing) bool {
	return slices.EqualFunc(a, b, func(v, w weigh.Weighing) bool { return slices.Equal(v.Left, w.Left) && slices.Equal(v.Right, w.Right) })
}

// The functions, for arguments with which there is no error.

func loads(t *testing.T, weights []int) []int {
	t.Helper()
	l, e := weigh.Loads(weights)
	if e != api.OK {
		t.Fatalf("Loads of %v: %d", weights, e)
	}
	return l
}

func reach(t *testing.T, weights []int) int {
	t.Helper()
	n, e := weigh.Reach(weights)
	if e != api.OK {
		t.Fatalf("Reach of %v: %d", weights, e)
	}
	return n
}

// canLay reports whether Lay finds a laying.
func canLay(t *testing.T, weights []int, load int) bool {
	t.Helper()
	_, e := weigh.Lay(weights, load)
	if e != api.OK && e != api.ErrLost {
		t.Fatalf("Lay of %d with %v: %d", load, weights, e)
	}
	return e == api.OK
}

func fewest(t *testing.T, load int) int {
	t.Helper()
	n, e := weigh.Fewest(load)
	if e != api.OK {
		t.Fatalf("Fewest of %d: %d", load, e)
	}
	return n
}

func shows(t *testing.T, x trial, c situation) []int {
	t.Helper()
	l, e := weigh.Shows(x.stones, x.plan, c[0], c[1])
	if e != api.OK {
		t.Fatalf("Shows of %v, %v: %d", x, c, e)
	}
	return l
}

func left(t *testing.T, x trial, shown []int) []situation {
	t.Helper()
	l, e := weigh.Left(x.stones, x.plan, shown)
	if e != api.OK {
		t.Fatalf("Left of %v, %v: %d", x, shown, e)
	}
	return l
}

// saysTelling reports whether Twins says that a plan tells all cases.
func saysTelling(t *testing.T, x trial) bool {
	t.Helper()
	_, _, e := weigh.Twins(x.stones, x.plan)
	if e != api.OK && e != api.ErrLost {
		t.Fatalf("Twins of %v: %d", x, e)
	}
	return e == api.ErrLost
}
