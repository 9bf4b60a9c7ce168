package transfer

import (
	"slices"

	"tusche/api"
)

// Cost returns the cost of a chain.
func Cost(chain []int, p Price) (int, api.Errno) {
	if e := Check(chain); e != api.OK {
		return 0, e
	}
	if !isPrice(p) {
		return 0, api.ErrSize
	}
	return costOf(chain, p), api.OK
}

// Cheapest returns a chain that costs as little as possible.
func Cheapest(n int, p Price) (chain []int, cost int, e api.Errno) {
	if !isImages(n) || !isPrice(p) {
		return nil, 0, api.ErrSize
	}
	for steps := range MaxSteps + 1 {
		visitChains(n, steps, func(other []int) {
			if c := costOf(other, p); chain == nil || c < cost {
				chain, cost = slices.Clone(other), c
			}
		})
	}
	return chain, cost, api.OK
}

// isPrice reports whether a price is as the chapter states.
func isPrice(p Price) bool {
	return p.Same >= 0 && p.Same <= MaxCost && p.Two >= 0 && p.Two <= MaxCost
}

// costOf returns the cost of a chain.
func costOf(chain []int, p Price) int {
	cost := 0
	for i, way := range waysOf(chain) {
		before, number := chain[:i+1], chain[i+1]
		switch {
		case way[0] == way[1]: // it is no sum of two different ones: one of them would be greater than its half, and its way would have a greater i
			cost += p.Same
		case number%2 == 0 && slices.Contains(before, number/2):
			cost += min(p.Same, p.Two)
		default:
			cost += p.Two
		}
	}
	return cost
}
