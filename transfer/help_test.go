package transfer_test

import (
	"math"
	"slices"
	"sync"
	"testing"

	"tusche/api"
	"tusche/transfer"
)

func list(l ...int) []int { return l }

// notImages are numbers that no stone has as its images.
func notImages() []int {
	return list(0, -1, 47, 64, 92, math.MinInt, math.MinInt+1, math.MaxInt, math.MaxInt-1)
}

// badPrices are prices that are not as the chapter states.
func badPrices() []transfer.Price {
	return []transfer.Price{
		{Same: -1, Two: 0}, {Same: 0, Two: -1}, {Same: 1001, Two: 1000}, {Same: 1000, Two: 1001}, {Same: -1, Two: 1001},
		{Same: math.MinInt, Two: 1}, {Same: 1, Two: math.MinInt}, {Same: math.MaxInt, Two: 1}, {Same: 1, Two: math.MaxInt},
	}
}

// prices are prices, with the smallest and the greatest numbers too.
func prices() []transfer.Price {
	var all []transfer.Price
	for _, same := range list(0, 1, 2, 3, 5, 7, 999, 1000) {
		for _, two := range list(0, 1, 2, 3, 5, 7, 999, 1000) {
			all = append(all, transfer.Price{Same: same, Two: two})
		}
	}
	return all
}

// pairs returns the pairs of indices i and k, with k at most i, whose numbers have a number as their sum. Those with a greater i come later.
func pairs(before []int, number int) [][2]int {
	var all [][2]int
	for i := range before {
		for k := range i + 1 {
			if before[i]+before[k] == number {
				all = append(all, [2]int{i, k})
			}
		}
	}
	return all
}

// isChain reports whether ascending numbers are a chain, as the chapter defines it.
func isChain(l []int) bool {
	if len(l) == 0 || len(l) > 20 || l[0] != 1 || l[len(l)-1] > 46 {
		return false
	}
	for i := 1; i < len(l); i++ {
		if len(pairs(l[:i], l[i])) == 0 {
			return false
		}
	}
	return true
}

// ways returns the ways of a chain's numbers, as the chapter defines them.
func ways(chain []int) [][2]int {
	var all [][2]int
	for i := 1; i < len(chain); i++ {
		p := pairs(chain[:i], chain[i])
		all = append(all, p[len(p)-1])
	}
	return all
}

// isRow reports whether a chain is a row, as the chapter defines it.
func isRow(chain []int) bool {
	for i, way := range ways(chain) {
		if way[0] != i {
			return false
		}
	}
	return true
}

// kinds is how many transfers of a chain are of two prints of one stone, of prints of two, and of either, as it is cheaper.
type kinds struct {
	same, two, either int
}

// kindsOf returns the kinds of a chain's transfers, as the chapter defines them.
func kindsOf(chain []int) kinds {
	var k kinds
	for i := 1; i < len(chain); i++ {
		same, two := false, false
		for _, p := range pairs(chain[:i], chain[i]) {
			same = same || p[0] == p[1]
			two = two || p[0] != p[1]
		}
		switch {
		case same && two:
			k.either++
		case same:
			k.same++
		default:
			k.two++
		}
	}
	return k
}

// cost returns what transfers of these kinds cost.
func (k kinds) cost(p transfer.Price) int {
	return k.same*p.Same + k.two*p.Two + k.either*min(p.Same, p.Two)
}

// longer returns all chains that have one number more than a chain, in ascending order.
func longer(chain []int) [][]int {
	var all [][]int
	for next := chain[len(chain)-1] + 1; next <= 46; next++ {
		if len(pairs(chain, next)) > 0 {
			all = append(all, append(slices.Clone(chain), next))
		}
	}
	return all
}

// allChains returns all chains with at most 7 transfers, by the number that they are for: those with fewer transfers first, then smaller ones.
var allChains = sync.OnceValue(func() map[int][][]int {
	all := map[int][][]int{}
	chains := [][]int{{1}}
	for range 8 {
		var next [][]int
		for _, chain := range chains {
			n := chain[len(chain)-1]
			all[n] = append(all[n], chain)
			next = append(next, longer(chain)...)
		}
		chains = next
	}
	return all
})

// shortest returns those of the chains for n that have as few transfers as possible.
func shortest(n int) [][]int {
	chains := allChains()[n]
	return slices.DeleteFunc(slices.Clone(chains), func(chain []int) bool { return len(chain) != len(chains[0]) })
}

// long are chains with 20 numbers.
func long() [][]int {
	return [][]int{
		list(1, 2, 3, 4, 5, 6, 7, 8, 9, 10, 11, 12, 13, 14, 15, 16, 17, 18, 19, 20),
		list(1, 2, 4, 6, 8, 10, 12, 14, 16, 18, 20, 22, 24, 26, 28, 30, 32, 34, 36, 38),
		list(1, 2, 3, 4, 8, 9, 10, 11, 12, 16, 20, 21, 22, 23, 24, 41, 42, 43, 44, 46),
	}
}

// someChains are chains of all sizes up to 5 transfers, some that are longer, and those with 20 numbers.
func someChains() [][]int {
	all := long()
	for n := range 47 {
		for i, chain := range allChains()[n] {
			if len(chain) <= 6 || i%23 == 0 {
				all = append(all, chain)
			}
		}
	}
	return all
}

func distance(t *testing.T, n int) int {
	t.Helper()
	d, e := transfer.Distance(n)
	if e != api.OK {
		t.Fatalf("Distance of %d: %d", n, e)
	}
	return d
}

func chainFor(t *testing.T, n int) []int {
	t.Helper()
	chain, e := transfer.Chain(n)
	if e != api.OK {
		t.Fatalf("Chain for %d: %d", n, e)
	}
	return chain
}

func cheapest(t *testing.T, n int, p transfer.Price) int {
	t.Helper()
	_, cost, e := transfer.Cheapest(n, p)
	if e != api.OK {
		t.Fatalf("Cheapest for %d with %v: %d", n, p, e)
	}
	return cost
}

// stepsWithout returns with how many transfers Without works around spoilt numbers. If it cannot, that is more than it may have.
func stepsWithout(t *testing.T, n int, spoilt []int) int {
	t.Helper()
	chain, e := transfer.Without(n, spoilt)
	switch e {
	case api.OK:
		return len(chain) - 1
	case api.ErrLost:
		return transfer.MaxSteps + 1
	}
	t.Fatalf("Without for %d: %v: %d", n, spoilt, e)
	return 0
}
