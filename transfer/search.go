package transfer

import (
	"slices"

	"tusche/api"
)

// found is a chain with which a search panics.
type found []int

// Distance returns the smallest number of transfers.
func Distance(n int) (int, api.Errno) {
	if !isImages(n) {
		return 0, api.ErrSize
	}
	return distance(n), api.OK
}

// Chain returns the smallest of the shortest chains.
func Chain(n int) ([]int, api.Errno) {
	if !isImages(n) {
		return nil, api.ErrSize
	}
	return shortest(n, anyChain), api.OK
}

// InRow returns the smallest of the shortest rows.
func InRow(n int) ([]int, api.Errno) {
	if !isImages(n) {
		return nil, api.ErrSize
	}
	return shortest(n, isRow), api.OK
}

// Count returns the number of the shortest chains.
func Count(n int) (int, api.Errno) {
	if !isImages(n) {
		return 0, api.ErrSize
	}
	count := 0
	visitChains(n, distance(n), func([]int) { count++ })
	return count, api.OK
}

// Reach returns what can be reached.
func Reach(steps int) ([]int, api.Errno) {
	if steps < 0 || steps > MaxSteps {
		return nil, api.ErrSize
	}
	var reached []int
	for n := 1; n <= MaxImages; n++ {
		if distance(n) <= steps {
			reached = append(reached, n)
		}
	}
	return reached, api.OK
}

// Without returns the smallest of the shortest chains without spoilt numbers.
func Without(n int, spoilt []int) ([]int, api.Errno) {
	if !isImages(n) {
		return nil, api.ErrSize
	}
	if len(spoilt) > MaxSpoilt {
		return nil, api.ErrMany
	}
	chain := shortest(n, func(chain []int) bool {
		return !slices.ContainsFunc(chain, func(number int) bool { return slices.Contains(spoilt, number) })
	})
	if chain == nil {
		return nil, api.ErrLost
	}
	return chain, api.OK
}

// anyChain is for a search in which each chain fits.
func anyChain([]int) bool { return true }

// distance returns the distance of a number of images.
func distance(n int) int {
	return len(shortest(n, anyChain)) - 1
}

// shortest returns, of the chains for n that fit, the smallest one of those with as few transfers as possible, or nil if none with at most MaxSteps transfers fits.
func shortest(n int, fits func(chain []int) bool) []int {
	for steps := range MaxSteps + 1 {
		if chain := smallest(n, steps, fits); chain != nil {
			return chain
		}
	}
	return nil
}

// smallest returns the smallest chain for n with so many transfers that fits, or nil if none does.
func smallest(n, steps int, fits func(chain []int) bool) (chain []int) {
	defer func() {
		if first, is := recover().(found); is {
			chain = first
		}
	}()
	visitChains(n, steps, func(next []int) {
		if fits(next) {
			panic(found(slices.Clone(next))) // all further ones are greater
		}
	})
	return nil
}

// visitChains visits all chains for n with so many transfers, in ascending order. What a visitor keeps, it copies: the chains share memory.
func visitChains(n, steps int, visit func(chain []int)) {
	visitLonger([]int{1}, n, steps, visit)
}

// visitLonger visits those of them that have so many transfers more than the chain that they begin with.
func visitLonger(chain []int, n, steps int, visit func(chain []int)) {
	last := chain[len(chain)-1]
	if steps == 0 {
		if last == n {
			visit(chain)
		}
		return
	}
	for next := last + 1; next <= min(last+last, n); next++ {
		if next<<(steps-1) < n { // a transfer does no more than double it
			continue
		}
		if _, is := wayOf(chain, next); is {
			visitLonger(append(chain, next), n, steps-1, visit)
		}
	}
}
