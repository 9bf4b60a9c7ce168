package transfer_test

import (
	"math"
	"slices"
	"testing"

	"tusche/api"
	"tusche/transfer"
)

// badChains are lists that are no chains, with their errors.
func badChains() []struct {
	chain []int
	want  api.Errno
} {
	upTo := func(n int) []int {
		var l []int
		for i := range n {
			l = append(l, i+1)
		}
		return l
	}
	return []struct {
		chain []int
		want  api.Errno
	}{
		{nil, api.ErrEmpty},
		{list(), api.ErrEmpty},
		{upTo(21), api.ErrMany},
		{upTo(46), api.ErrMany},
		{make([]int, 21), api.ErrMany},
		{make([]int, 5000), api.ErrMany},
		{list(0), api.ErrSize},
		{list(-1), api.ErrSize},
		{list(47), api.ErrSize},
		{list(1, 2, 4, 8, 16, 32, 47), api.ErrSize},
		{list(1, 2, 4, 8, 16, 32, 64), api.ErrSize},
		{list(math.MinInt), api.ErrSize},
		{list(math.MaxInt), api.ErrSize},
		{list(1, math.MinInt), api.ErrSize},
		{list(1, 2, math.MaxInt), api.ErrSize},
		{list(1, 0), api.ErrSize}, // it is not greater than the one before it, either
		{list(2, 1, -1), api.ErrOrder},
		{list(1, 1), api.ErrOrder},
		{list(1, 2, 2), api.ErrOrder},
		{list(1, 2, 3, 2), api.ErrOrder},
		{list(46, 45), api.ErrOrder},
		{list(1, 2, 2, 50), api.ErrOrder}, // the first number with an error decides
		{list(1, 50, 2), api.ErrSize},
		{list(2, 5, 50), api.ErrSize}, // before what is wrong with all of it
		{list(2, 5, 4), api.ErrOrder},
		{list(1, 5, 5), api.ErrOrder},
		{list(2), api.ErrProof},
		{list(46), api.ErrProof},
		{list(2, 4, 8), api.ErrProof},
		{list(2, 3, 4), api.ErrProof},
		{list(1, 3), api.ErrProof},
		{list(1, 2, 5), api.ErrProof},
		{list(1, 2, 4, 7), api.ErrProof},
		{list(1, 2, 4, 7, 8), api.ErrProof},
		{list(1, 2, 3, 4, 9, 10), api.ErrProof},
		{list(1, 2, 4, 8, 16, 32, 46), api.ErrProof},
		{list(1, 2, 4, 8, 11), api.ErrProof}, // the sum of three
		{append(upTo(19), 41), api.ErrProof},
	}
}

// P4.1: lists that are no chains.
func TestBadChains(t *testing.T) {
	for i, x := range badChains() {
		if e := transfer.Check(x.chain); e != x.want {
			t.Errorf("%d: Check of %v: %d, want %d", i, x.chain, e, x.want)
		}
		if l, e := transfer.Ways(x.chain); len(l) != 0 || e != x.want {
			t.Errorf("%d: Ways of %v: %v %d, want %d", i, x.chain, l, e, x.want)
		}
		if is, e := transfer.Row(x.chain); is || e != x.want {
			t.Errorf("%d: Row of %v: %t %d, want %d", i, x.chain, is, e, x.want)
		}
	}
}

// P4.1: all ascending lists of numbers up to 12, and those of some greater ones.
func TestCheck(t *testing.T) {
	for _, numbers := range [][]int{{1, 2, 3, 4, 5, 6, 7, 8, 9, 10, 11, 12}, {1, 2, 3, 5, 8, 10, 13, 20, 21, 26, 33, 46}} {
		for bits := 1; bits < 1<<len(numbers); bits++ {
			var l []int
			for i, number := range numbers {
				if bits>>i&1 == 1 {
					l = append(l, number)
				}
			}
			want := api.ErrProof
			if isChain(l) {
				want = api.OK
			}
			if e := transfer.Check(l); e != want {
				t.Fatalf("Check of %v: %d, want %d", l, e, want)
			}
		}
	}
}

// P4.1: the smallest chain, and those with as many numbers as there can be.
func TestCheckEdges(t *testing.T) {
	for _, chain := range append(long(), list(1), list(1, 2), list(1, 2, 4, 8, 16, 32, 34, 42, 46)) {
		if e := transfer.Check(chain); e != api.OK {
			t.Errorf("Check of %v: %d", chain, e)
		}
	}
}

// P4.1.
func TestWays(t *testing.T) {
	for _, chain := range someChains() {
		if l, e := transfer.Ways(chain); !slices.Equal(l, ways(chain)) || e != api.OK {
			t.Fatalf("Ways of %v: %v %d, want %v", chain, l, e, ways(chain))
		}
	}
}

// P4.1: no further number, more than one pair, a double, and numbers that do not use the one before them.
func TestWaysEdges(t *testing.T) {
	for _, x := range []struct {
		chain []int
		want  [][2]int
	}{
		{list(1), nil},
		{list(1, 2), [][2]int{{0, 0}}},
		{list(1, 2, 3, 4), [][2]int{{0, 0}, {1, 0}, {2, 0}}}, // 4 is 2 and 2, too
		{list(1, 2, 4, 5, 8), [][2]int{{0, 0}, {1, 1}, {2, 0}, {2, 2}}},
		{list(1, 2, 3, 4, 5, 6), [][2]int{{0, 0}, {1, 0}, {2, 0}, {3, 0}, {4, 0}}},
	} {
		if l, e := transfer.Ways(x.chain); !slices.Equal(l, x.want) || e != api.OK {
			t.Errorf("Ways of %v: %v %d, want %v", x.chain, l, e, x.want)
		}
	}
}

// P4.1.
func TestRow(t *testing.T) {
	for _, chain := range someChains() {
		if is, e := transfer.Row(chain); is != isRow(chain) || e != api.OK {
			t.Fatalf("Row of %v: %t %d", chain, is, e)
		}
	}
	for _, chain := range [][]int{{1}, {1, 2}, {1, 2, 3, 4}, {1, 2, 4, 8, 16, 32}} {
		if is, e := transfer.Row(chain); !is || e != api.OK {
			t.Errorf("Row of %v: %t %d", chain, is, e)
		}
	}
	for _, chain := range [][]int{{1, 2, 4, 5, 8, 9}, {1, 2, 4, 8, 9, 16}, {1, 2, 3, 4, 7, 8, 14, 16}} { // one of the middle, or the last one
		if is, e := transfer.Row(chain); is || e != api.OK {
			t.Errorf("Row of %v: %t %d", chain, is, e)
		}
	}
}
