package weigh_test

import (
	"maps"
	"math"
	"slices"
	"testing"

	"tusche/api"
	"tusche/weigh"
)

// P12.1, M3: by all ways to lay each weight.
func TestLoads(t *testing.T) {
	for _, weights := range sets() {
		var want []int
		for _, load := range slices.Sorted(maps.Keys(balanced(weights))) {
			if load > 0 {
				want = append(want, load)
			}
		}
		if l := loads(t, weights); !slices.Equal(l, want) {
			t.Fatalf("Loads of %v: %v, want %v", weights, l, want)
		}
	}
}

// P12.1: one weight, equal ones, and the greatest ones.
func TestLoadsEdges(t *testing.T) {
	for _, x := range []struct {
		weights, want []int
		reach         int
	}{
		{list(1), list(1), 1},
		{list(2), list(2), 0},
		{list(2000), list(2000), 0},
		{list(1, 1), list(1, 2), 2},
		{list(1, 2), list(1, 2, 3), 3},
		{list(2, 2), list(2, 4), 0},
		{list(2, 3), list(1, 2, 3, 5), 3}, // 4 is missing
		{list(3, 4), list(1, 3, 4, 7), 1},
		{list(1, 5), list(1, 4, 5, 6), 1},
		{list(1999, 2000), list(1, 1999, 2000, 3999), 1},
		{list(1, 1, 1, 1, 1, 1, 1), list(1, 2, 3, 4, 5, 6, 7), 7},
		{slices.Repeat(list(2000), 7), list(2000, 4000, 6000, 8000, 10000, 12000, 14000), 0},
	} {
		if l := loads(t, x.weights); !slices.Equal(l, x.want) {
			t.Errorf("Loads of %v: %v, want %v", x.weights, l, x.want)
		}
		if n := reach(t, x.weights); n != x.reach {
			t.Errorf("Reach of %v: %d, want %d", x.weights, n, x.reach)
		}
	}
}

// P12.1: by the definition.
func TestReach(t *testing.T) {
	for _, weights := range sets() {
		if n := reach(t, weights); n != reachOf(weights) {
			t.Fatalf("Reach of %v: %d, want %d", weights, n, reachOf(weights))
		}
	}
}

// used returns how many numbers of a laying are not 0.
func used(laying []int) int {
	n := 0
	for _, number := range laying {
		n += number * number
	}
	return n
}

// leastLayings is the chapter's definition, for all loads of a set.
func leastLayings(weights []int) map[int][]int {
	least := map[int][]int{}
	for _, laying := range everyLaying(len(weights)) {
		load := loadOf(weights, laying)
		best, is := least[load]
		if !is || used(laying) < used(best) || used(laying) == used(best) && slices.Compare(laying, best) > 0 {
			least[load] = laying
		}
	}
	return least
}

// P12.2, M3, M4: for all loads near those that can be weighed.
func TestLay(t *testing.T) {
	for number, weights := range sets() {
		least := leastLayings(weights)
		sum := total(weights)
		step := 1 + sum*sum/20000
		for load := -sum - 3; load <= sum+3; load += 1 + number%step {
			checkLay(t, weights, load, least[load])
		}
		keys := slices.Sorted(maps.Keys(least))
		for i := 0; i < len(keys); i += 1 + len(keys)/30 {
			checkLay(t, weights, keys[i], least[keys[i]])
		}
	}
}

// checkLay checks what Lay returns; nothing is wanted if the load cannot be weighed. What it returns is accepted.
func checkLay(t *testing.T, weights []int, load int, want []int) {
	t.Helper()
	l, e := weigh.Lay(weights, load)
	if want == nil {
		if len(l) != 0 || e != api.ErrLost {
			t.Fatalf("Lay of %d with %v: %v %d", load, weights, l, e)
		}
		return
	}
	if !slices.Equal(l, want) || e != api.OK {
		t.Fatalf("Lay of %d with %v: %v %d, want %v", load, weights, l, e, want)
	}
	if e := weigh.Balances(weights, l, load); e != api.OK {
		t.Fatalf("Balances of %v: %v and %d: %d", weights, l, load, e)
	}
}

// P12.2: fewer weights before the first laying, the greater number first, equal weights, 0, loads below 0, and numbers of any size.
func TestLayEdges(t *testing.T) {
	for _, x := range []struct {
		weights []int
		load    int
		want    []int
	}{
		{list(1), 1, list(1)},
		{list(1), 0, list(0)},
		{list(1), -1, list(-1)},
		{list(1), 2, nil},
		{list(2), 1, nil},
		{list(2), -1, nil},
		{list(1, 1), 1, list(1, 0)},
		{list(1, 1), 0, list(0, 0)}, // and not 1, -1
		{list(1, 1), -1, list(0, -1)},
		{list(1, 1), -2, list(-1, -1)},
		{list(2, 2, 2), 2, list(1, 0, 0)},
		{list(2, 2, 2), -2, list(0, 0, -1)},
		{list(1, 2, 3), 3, list(0, 0, 1)}, // and not 1, 1, 0
		{list(1, 2, 3), 1, list(1, 0, 0)},
		{list(1, 2, 4, 5), 6, list(1, 0, 0, 1)},    // and not 0, 1, 1, 0
		{list(1, 3, 4, 6), 7, list(1, 0, 0, 1)},    // and not 0, 1, 1, 0
		{list(1, 4, 5, 8), -9, list(0, -1, -1, 0)}, // 0 is greater than -1
		{list(2, 3, 5, 6), 3, list(0, 1, 0, 0)},
		{list(2, 3, 5, 6), 4, list(-1, 0, 0, 1)},
		{list(1, 3, 5, 6), 2, list(0, -1, 1, 0)}, // and not -1, 1, 0, 0
		{list(1, 3, 5, 7), -2, list(1, -1, 0, 0)},
		{list(1, 3, 9), 14, nil},
		{list(1, 3, 9), -13, list(-1, -1, -1)},
		{slices.Repeat(list(2000), 7), 14000, list(1, 1, 1, 1, 1, 1, 1)},
		{slices.Repeat(list(2000), 7), -14000, list(-1, -1, -1, -1, -1, -1, -1)},
		{slices.Repeat(list(2000), 7), 14001, nil},
		{slices.Repeat(list(2000), 7), 2000, list(1, 0, 0, 0, 0, 0, 0)},
		{slices.Repeat(list(2000), 7), -2000, list(0, 0, 0, 0, 0, 0, -1)},
		{list(1, 3, 9, 27, 81, 243, 729), 1093, list(1, 1, 1, 1, 1, 1, 1)},
		{list(1, 3, 9), math.MinInt, nil},
		{list(1, 3, 9), math.MaxInt, nil},
		{list(1, 3, 9), math.MinInt + 13, nil},
		{list(1, 3, 9), 1 << 32, nil},
	} {
		checkLay(t, x.weights, x.load, x.want)
	}
}

// P12.2: all layings, with the load that each one balances, and others.
func TestBalances(t *testing.T) {
	for number, weights := range sets() {
		for i, laying := range everyLaying(len(weights)) {
			if i%(1+number%7) != 0 {
				continue
			}
			load := loadOf(weights, laying)
			for _, other := range list(load-1, load, load+1, -load, total(weights), 0) {
				want := api.ErrProof
				if other == load {
					want = api.OK
				}
				if e := weigh.Balances(weights, laying, other); e != want {
					t.Fatalf("Balances of %v: %v and %d: %d, want %d", weights, laying, other, e, want)
				}
			}
		}
	}
}

// P12.2: lists that are no layings, also where the sum would be right.
func TestBalancesErrors(t *testing.T) {
	for _, x := range []struct {
		weights, laying []int
		load            int
		want            api.Errno
	}{
		{list(1, 3), nil, 0, api.ErrForm},
		{list(1, 3), list(), 0, api.ErrForm},
		{list(1, 3), list(1), 1, api.ErrForm},
		{list(1, 3), list(1, 0, 0), 1, api.ErrForm},
		{list(1, 3), make([]int, 100000), 0, api.ErrForm},
		{list(1, 3), list(2, 0), 2, api.ErrForm},
		{list(1, 3), list(0, -2), -6, api.ErrForm},
		{list(1, 3), list(1, 2), 9, api.ErrForm}, // before it does not balance the load
		{list(1, 3), list(math.MaxInt, 0), math.MaxInt, api.ErrForm},
		{list(1, 3), list(0, math.MinInt), math.MinInt, api.ErrForm},
		{list(1), list(0), 0, api.OK},
		{list(1), list(0), 1, api.ErrProof},
		{list(1, 3), list(1, 1), math.MinInt, api.ErrProof},
		{list(1, 3), list(1, 1), math.MaxInt, api.ErrProof},
		{list(1, 1), list(1, -1), 0, api.OK}, // it need not be the least one
		{list(1, 2, 3), list(1, 1, 0), 3, api.OK},
	} {
		if e := weigh.Balances(x.weights, x.laying, x.load); e != x.want {
			t.Errorf("Balances of %v: %v and %d: %d, want %d", x.weights, x.laying[:min(9, len(x.laying))], x.load, e, x.want)
		}
	}
}

// P12.3, P12.8, M4: all loads.
func TestFewest(t *testing.T) {
	greatest := list(0, 1, 4, 13, 40, 121, 364, 1093)
	for load := 1; load <= weigh.MaxLoad; load++ {
		want, _ := slices.BinarySearch(greatest, load)
		if n := fewest(t, load); n != want {
			t.Fatalf("Fewest of %d: %d, want %d", load, n, want)
		}
		l, e := weigh.Set(load)
		if len(l) != want || e != api.OK || weigh.Check(l) != api.OK || reachOf(l) < load {
			t.Fatalf("Set of %d: %v %d, which reaches %d", load, l, e, reachOf(l))
		}
		if n := reach(t, l); n < load {
			t.Fatalf("Set of %d: %v, Reach: %d", load, l, n)
		}
	}
}

// P12.3: no weights of some sizes do with fewer.
func TestNoFewer(t *testing.T) {
	for size, most := range list(0, 2000, 80, 30, 12) {
		if size == 0 {
			continue
		}
		for _, weights := range everySet(size, most) {
			if n := reachOf(weights); n > 0 && fewest(t, n) > size {
				t.Fatalf("%v reaches %d, but Fewest: %d", weights, n, fewest(t, n))
			}
		}
	}
	for _, weights := range sets() {
		if n := reach(t, weights); n > 0 && fewest(t, n) > len(weights) {
			t.Fatalf("%v reaches %d, but Fewest: %d", weights, n, fewest(t, n))
		}
	}
}

// P12.3: loads that are none.
func TestFewestErrors(t *testing.T) {
	for _, load := range list(0, -1, 1094, -1093, 3280, math.MinInt, math.MaxInt) {
		if n, e := weigh.Fewest(load); n != 0 || e != api.ErrSize {
			t.Errorf("Fewest of %d: %d %d", load, n, e)
		}
		if l, e := weigh.Set(load); len(l) != 0 || e != api.ErrSize {
			t.Errorf("Set of %d: %v %d", load, l, e)
		}
	}
}
