package transfer_test

import (
	"slices"
	"testing"

	"tusche/api"
	"tusche/transfer"
)

// P4.5.
func TestCost(t *testing.T) {
	for _, chain := range someChains() {
		k := kindsOf(chain)
		for _, p := range prices() {
			if c, e := transfer.Cost(chain, p); c != k.cost(p) || e != api.OK {
				t.Fatalf("Cost of %v with %v: %d %d, want %d", chain, p, c, e, k.cost(p))
			}
		}
	}
}

// P4.5: no transfer, each kind of them, and the greatest cost.
func TestCostEdges(t *testing.T) {
	for _, x := range []struct {
		chain     []int
		same, two int
		want      int
	}{
		{list(1), 1000, 1000, 0},
		{list(1, 2), 7, 3, 7},
		{list(1, 2, 3), 7, 3, 10},
		{list(1, 2, 3, 4), 7, 3, 13}, // 4 is 3 and 1, and 2 and 2
		{list(1, 2, 3, 4), 3, 7, 13},
		{list(1, 2, 4), 7, 3, 14},
		{list(1, 2, 3, 4, 6), 7, 3, 16}, // 6 is 4 and 2, and 3 and 3
		{list(1, 2, 3, 5, 6), 3, 7, 20}, // 6 is 5 and 1, and 3 and 3
		{list(1, 2, 3, 5, 7), 3, 7, 24}, // 7 is odd, though half of it is 3 and a rest
		{list(1, 2, 3, 5, 8, 10), 3, 0, 3},
		{list(1, 2, 3, 5, 8, 10), 0, 3, 9}, // 10 is 8 and 2, and 5 and 5
		{long()[0], 1000, 1000, 19000},
		{long()[0], 0, 0, 0},
	} {
		if c, e := transfer.Cost(x.chain, transfer.Price{Same: x.same, Two: x.two}); c != x.want || e != api.OK {
			t.Errorf("Cost of %v with %d, %d: %d %d, want %d", x.chain, x.same, x.two, c, e, x.want)
		}
	}
}

// P4.5: the order of the errors.
func TestCostErrors(t *testing.T) {
	for _, p := range append(badPrices(), transfer.Price{Same: 1, Two: 1}) {
		for _, x := range badChains() {
			if c, e := transfer.Cost(x.chain, p); c != 0 || e != x.want {
				t.Errorf("Cost of %v with %v: %d %d, want %d", x.chain, p, c, e, x.want)
			}
		}
	}
	for _, p := range badPrices() {
		for _, chain := range [][]int{list(1), list(1, 2, 3), long()[1]} {
			if c, e := transfer.Cost(chain, p); c != 0 || e != api.ErrSize {
				t.Errorf("Cost of %v with %v: %d %d", chain, p, c, e)
			}
		}
	}
}

// P4.5: of all chains with at most 7 transfers.
func TestCheapest(t *testing.T) {
	for n := 1; n <= 46; n++ {
		all := map[kinds]bool{}
		for _, chain := range allChains()[n] {
			all[kindsOf(chain)] = true
		}
		for _, p := range prices() {
			least := 7 * 1000
			for k := range all {
				least = min(least, k.cost(p))
			}
			chain, cost, e := transfer.Cheapest(n, p)
			if cost != least || e != api.OK {
				t.Fatalf("Cheapest for %d with %v: %v %d %d, want %d", n, p, chain, cost, e, least)
			}
			if !isChain(chain) || chain[len(chain)-1] != n || len(chain) > 8 || kindsOf(chain).cost(p) != cost {
				t.Fatalf("Cheapest for %d with %v: %v %d", n, p, chain, cost)
			}
		}
	}
}

// P4.5: the smallest number of images, the prices at the limits, chains that are cheapest with more transfers than they need, and too many transfers.
func TestCheapestEdges(t *testing.T) {
	for _, x := range []struct {
		n, same, two int
		cost         int
	}{
		{1, 1000, 1000, 0},
		{1, 0, 0, 0},
		{2, 1000, 0, 1000},
		{46, 0, 0, 0},
		{46, 1000, 1000, 7000},
		{16, 1000, 0, 1000}, // 1, 2, 3, 4, 6, 10, 16: not its 4 doubles
		{32, 1000, 0, 2000}, // 8 transfers would do it for 1000: 1, 2, 3, 4, 6, 10, 16, 22, 32
		{32, 0, 1000, 0},
		{3, 0, 1000, 1000},
		{7, 0, 1000, 2000},
	} {
		if chain, cost, e := transfer.Cheapest(x.n, transfer.Price{Same: x.same, Two: x.two}); cost != x.cost || e != api.OK {
			t.Errorf("Cheapest for %d with %d, %d: %v %d %d, want %d", x.n, x.same, x.two, chain, cost, e, x.cost)
		}
	}
	eight := list(1, 2, 3, 4, 6, 10, 16, 22, 32)
	if c, e := transfer.Cost(eight, transfer.Price{Same: 1000, Two: 0}); c != 1000 || e != api.OK {
		t.Errorf("Cost of %v: %d %d", eight, c, e)
	}
	if chain, cost, e := transfer.Cheapest(1, transfer.Price{Same: 5, Two: 5}); !slices.Equal(chain, list(1)) || cost != 0 || e != api.OK {
		t.Errorf("Cheapest for 1: %v %d %d", chain, cost, e)
	}
}

// P4.5.
func TestCheapestErrors(t *testing.T) {
	for _, p := range append(badPrices(), transfer.Price{Same: 1, Two: 1}) {
		for _, n := range notImages() {
			if chain, cost, e := transfer.Cheapest(n, p); len(chain) != 0 || cost != 0 || e != api.ErrSize {
				t.Errorf("Cheapest for %d with %v: %v %d %d", n, p, chain, cost, e)
			}
		}
	}
	for _, p := range badPrices() {
		for _, n := range list(1, 2, 7, 46) {
			if chain, cost, e := transfer.Cheapest(n, p); len(chain) != 0 || cost != 0 || e != api.ErrSize {
				t.Errorf("Cheapest for %d with %v: %v %d %d", n, p, chain, cost, e)
			}
		}
	}
}
