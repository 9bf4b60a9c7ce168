package transfer_test

import (
	"math/bits"
	"slices"
	"testing"

	"tusche/api"
	"tusche/transfer"
)

// P4.6.
func TestBounds(t *testing.T) {
	for n := 1; n <= 46; n++ {
		least := bits.Len(uint(n - 1))
		most := bits.Len(uint(n)) + bits.OnesCount(uint(n)) - 2
		if d := distance(t, n); d < least || d > most {
			t.Errorf("Distance of %d: %d, not from %d to %d", n, d, least, most)
		}
	}
}

// P4.7.
func TestRowsAreShortest(t *testing.T) {
	for n := 1; n <= 46; n++ {
		row, e := transfer.InRow(n)
		is, f := transfer.Row(row)
		if e != api.OK || f != api.OK || !is || row[len(row)-1] != n || len(row)-1 != distance(t, n) {
			t.Errorf("InRow for %d: %v %d", n, row, e)
		}
	}
}

// P4.8: a chain for a product.
func TestProducts(t *testing.T) {
	for a := 1; a <= 46; a++ {
		for b := 1; a*b <= 46; b++ {
			chain := chainFor(t, a)
			for _, number := range chainFor(t, b)[1:] {
				chain = append(chain, a*number)
			}
			if e := transfer.Check(chain); e != api.OK {
				t.Errorf("%d and %d: Check of %v: %d", a, b, chain, e)
			}
			if d := distance(t, a*b); d > distance(t, a)+distance(t, b) {
				t.Errorf("Distance of %d: %d, of %d: %d, of %d: %d", a*b, d, a, distance(t, a), b, distance(t, b))
			}
		}
	}
}

// P4.8: powers of 2, less 1, and numbers that follow each other.
func TestNeighbours(t *testing.T) {
	for k := 1; 1<<k-1 <= 46; k++ {
		if d := distance(t, 1<<k-1); d > distance(t, k)+k-1 {
			t.Errorf("Distance of %d: %d, of %d: %d", 1<<k-1, d, k, distance(t, k))
		}
	}
	for n := 1; n < 46; n++ {
		if distance(t, n+1) > distance(t, n)+1 {
			t.Errorf("Distance of %d: %d, of %d: %d", n, distance(t, n), n+1, distance(t, n+1))
		}
	}
}

// P4.9: no chain is shorter than the distance says, and Check accepts what Chain returns (M4).
func TestNoneIsShorter(t *testing.T) {
	for n := 1; n <= 46; n++ {
		d := distance(t, n)
		for _, chain := range allChains()[n] {
			if len(chain)-1 < d {
				t.Fatalf("Distance of %d: %d, but %v", n, d, chain)
			}
		}
		chain := chainFor(t, n)
		if e := transfer.Check(chain); e != api.OK || chain[len(chain)-1] != n || len(chain)-1 != d {
			t.Errorf("Chain for %d: %v, Check %d", n, chain, e)
		}
	}
}

// P4.10, M1, M7: what Without returns works around the spoilt numbers, and needs no more for fewer of them.
func TestFewerSpoilt(t *testing.T) {
	for n := 1; n <= 46; n++ {
		chain := chainFor(t, n)
		for _, spoilt := range spoiltLists() {
			l, e := transfer.Without(n, spoilt)
			if e == api.OK && (transfer.Check(l) != api.OK || l[len(l)-1] != n || marks(l)&marks(spoilt) != 0) {
				t.Fatalf("Without for %d: %v: %v", n, spoilt, l)
			}
			if marks(chain)&marks(spoilt) == 0 && !slices.Equal(l, chain) {
				t.Fatalf("Without for %d: %v: %v, but Chain %v", n, spoilt, l, chain)
			}
			most := stepsWithout(t, n, spoilt)
			for i := range spoilt {
				fewer := slices.Concat(spoilt[:i], spoilt[i+1:])
				if steps := stepsWithout(t, n, fewer); steps > most {
					t.Fatalf("Without for %d: %v: %d transfers, for %v: %d", n, fewer, steps, spoilt, most)
				}
			}
		}
	}
}

// P4.4, M5: the order of spoilt numbers means nothing.
func TestSpoiltOrder(t *testing.T) {
	for n := 1; n <= 46; n++ {
		for _, spoilt := range spoiltLists() {
			turned := slices.Clone(spoilt)
			slices.Reverse(turned)
			a, e := transfer.Without(n, spoilt)
			b, f := transfer.Without(n, turned)
			if !slices.Equal(a, b) || e != f {
				t.Fatalf("Without for %d: %v: %v %d, turned around: %v %d", n, spoilt, a, e, b, f)
			}
		}
	}
}

// P4.11: what a transfer costs is 1, or both are multiplied.
func TestCostsMultiplied(t *testing.T) {
	for n := 1; n <= 46; n++ {
		if cost := cheapest(t, n, transfer.Price{Same: 1, Two: 1}); cost != distance(t, n) {
			t.Errorf("Cheapest for %d with 1, 1: %d, Distance %d", n, cost, distance(t, n))
		}
		for _, p := range []transfer.Price{{Same: 1, Two: 1}, {Same: 1, Two: 0}, {Same: 0, Two: 1}, {Same: 2, Two: 3}, {Same: 5, Two: 2}, {Same: 10, Two: 1}} {
			cost := cheapest(t, n, p)
			for _, times := range list(0, 1, 2, 7, 100) {
				if c := cheapest(t, n, transfer.Price{Same: times * p.Same, Two: times * p.Two}); c != times*cost {
					t.Errorf("Cheapest for %d with %v: %d, with %d times as much: %d", n, p, cost, times, c)
				}
			}
		}
	}
}

// P4.11: if a price is greater, the cost is not smaller.
func TestCostsGrow(t *testing.T) {
	for n := 1; n <= 46; n++ {
		for same := range 8 {
			for two := range 8 {
				cost := cheapest(t, n, transfer.Price{Same: same, Two: two})
				if c := cheapest(t, n, transfer.Price{Same: same + 1, Two: two}); c < cost {
					t.Errorf("Cheapest for %d with %d, %d: %d, with one more for the same: %d", n, same, two, cost, c)
				}
				if c := cheapest(t, n, transfer.Price{Same: same, Two: two + 1}); c < cost {
					t.Errorf("Cheapest for %d with %d, %d: %d, with one more for two: %d", n, same, two, cost, c)
				}
			}
		}
	}
}

// P4.11: the 2 of each chain is of two prints of one stone.
func TestTwoIsFree(t *testing.T) {
	for n := 2; n <= 46; n++ {
		for _, same := range list(1, 2, 1000) {
			p := transfer.Price{Same: same}
			if cost := cheapest(t, n, p); cost < same {
				t.Errorf("Cheapest for %d with %v: %d", n, p, cost)
			}
			for _, chain := range shortest(n) {
				if cost, e := transfer.Cost(chain, p); cost < same || e != api.OK {
					t.Fatalf("Cost of %v with %v: %d %d", chain, p, cost, e)
				}
			}
		}
	}
}

// M1: what can be reached is not lost with more transfers.
func TestReachGrows(t *testing.T) {
	for steps := range 7 {
		fewer, e := transfer.Reach(steps)
		more, f := transfer.Reach(steps + 1)
		if e != api.OK || f != api.OK || marks(fewer)&^marks(more) != 0 || len(more) <= len(fewer) {
			t.Errorf("Reach of %d: %v %d, with one more: %v %d", steps, fewer, e, more, f)
		}
	}
}
