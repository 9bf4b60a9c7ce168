package transfer_test

import (
	"math"
	"slices"
	"testing"

	"tusche/api"
	"tusche/transfer"
)

// P4.2, P4.9: of all chains.
func TestShortest(t *testing.T) {
	for n := 1; n <= 46; n++ {
		chains := shortest(n)
		if d, e := transfer.Distance(n); d != len(chains[0])-1 || e != api.OK {
			t.Errorf("Distance of %d: %d %d, want %d", n, d, e, len(chains[0])-1)
		}
		if l, e := transfer.Chain(n); !slices.Equal(l, chains[0]) || e != api.OK {
			t.Errorf("Chain for %d: %v %d, want %v", n, l, e, chains[0])
		}
		if c, e := transfer.Count(n); c != len(chains) || e != api.OK {
			t.Errorf("Count of %d: %d %d, want %d", n, c, e, len(chains))
		}
	}
}

// P4.2, P4.3, P4.4: the smallest number of images, and the greatest one.
func TestEdges(t *testing.T) {
	for _, x := range []struct {
		n, distance, count int
		chain              []int
	}{
		{1, 0, 1, list(1)},
		{2, 1, 1, list(1, 2)},
		{46, 7, 8, list(1, 2, 3, 5, 10, 13, 23, 46)},
	} {
		d, e := transfer.Distance(x.n)
		c, f := transfer.Count(x.n)
		if d != x.distance || e != api.OK || c != x.count || f != api.OK {
			t.Errorf("Distance of %d: %d %d, Count: %d %d", x.n, d, e, c, f)
		}
		l, e := transfer.Chain(x.n)
		row, f := transfer.InRow(x.n)
		without, g := transfer.Without(x.n, nil)
		if !slices.Equal(l, x.chain) || e != api.OK || !slices.Equal(row, x.chain) || f != api.OK || !slices.Equal(without, x.chain) || g != api.OK {
			t.Errorf("Chain for %d: %v %d, InRow: %v %d, Without: %v %d", x.n, l, e, row, f, without, g)
		}
	}
}

// P4.2, P4.3, P4.4: numbers that no stone has.
func TestNotImages(t *testing.T) {
	for _, n := range notImages() {
		if d, e := transfer.Distance(n); d != 0 || e != api.ErrSize {
			t.Errorf("Distance of %d: %d %d", n, d, e)
		}
		if l, e := transfer.Chain(n); len(l) != 0 || e != api.ErrSize {
			t.Errorf("Chain for %d: %v %d", n, l, e)
		}
		if c, e := transfer.Count(n); c != 0 || e != api.ErrSize {
			t.Errorf("Count of %d: %d %d", n, c, e)
		}
		if l, e := transfer.InRow(n); len(l) != 0 || e != api.ErrSize {
			t.Errorf("InRow for %d: %v %d", n, l, e)
		}
		for _, spoilt := range [][]int{nil, list(1), make([]int, 13)} { // it is mentioned first
			if l, e := transfer.Without(n, spoilt); len(l) != 0 || e != api.ErrSize {
				t.Errorf("Without for %d: %v: %v %d", n, spoilt, l, e)
			}
		}
	}
}

// P4.3: of all rows.
func TestInRow(t *testing.T) {
	for n := 1; n <= 46; n++ {
		chains := allChains()[n]
		want := chains[slices.IndexFunc(chains, isRow)]
		if l, e := transfer.InRow(n); !slices.Equal(l, want) || e != api.OK {
			t.Errorf("InRow for %d: %v %d, want %v", n, l, e, want)
		}
	}
}

// P4.3.
func TestReach(t *testing.T) {
	for steps := range 8 {
		var want []int
		for n := 1; n <= 46; n++ {
			if len(allChains()[n][0])-1 <= steps {
				want = append(want, n)
			}
		}
		if l, e := transfer.Reach(steps); !slices.Equal(l, want) || e != api.OK {
			t.Errorf("Reach of %d: %v %d, want %v", steps, l, e, want)
		}
	}
}

// P4.3: no transfer, one, all numbers, and steps that are too few or too many.
func TestReachEdges(t *testing.T) {
	for _, x := range []struct {
		steps int
		want  []int
	}{{0, list(1)}, {1, list(1, 2)}, {2, list(1, 2, 3, 4)}} {
		if l, e := transfer.Reach(x.steps); !slices.Equal(l, x.want) || e != api.OK {
			t.Errorf("Reach of %d: %v %d, want %v", x.steps, l, e, x.want)
		}
	}
	if l, e := transfer.Reach(7); len(l) != 46 || e != api.OK {
		t.Errorf("Reach of 7: %v %d", l, e)
	}
	for _, steps := range list(-1, 8, math.MinInt, math.MaxInt) {
		if l, e := transfer.Reach(steps); len(l) != 0 || e != api.ErrSize {
			t.Errorf("Reach of %d: %v %d", steps, l, e)
		}
	}
}

// marks returns a bit for each of the numbers that a stone can have.
func marks(numbers []int) uint64 {
	var bits uint64
	for _, number := range numbers {
		if number >= 1 && number <= 46 {
			bits |= 1 << number
		}
	}
	return bits
}

// spoiltLists are lists of spoilt numbers: each number, each two, and some longer ones, in no order, with equal numbers, and with numbers that no stone has.
func spoiltLists() [][]int {
	all := [][]int{nil}
	for one := 1; one <= 46; one++ {
		all = append(all, list(one))
		for other := range one {
			all = append(all, list(one, other))
		}
	}
	for size := 3; size <= 12; size++ {
		for start := range 40 {
			var l []int
			for i := range size {
				l = append(l, 3+(start*start+7*i*i+size*i)%44)
			}
			all = append(all, l)
		}
	}
	return append(all, list(4, 4, 4), slices.Repeat(list(5, 3), 6), make([]int, 12), append(notImages(), 6, 3, 9),
		list(3, 5, 6, 7, 9, 10, 11, 12, 13, 14, 15, 17), list(4, 6, 7, 8, 9, 10, 11, 12, 14, 16, 20, 24))
}

// P4.4: of all chains.
func TestWithout(t *testing.T) {
	lists := spoiltLists()
	for n := 1; n <= 46; n++ {
		chains := allChains()[n]
		var bits []uint64
		for _, chain := range chains {
			bits = append(bits, marks(chain))
		}
		for _, spoilt := range lists {
			gone := marks(spoilt)
			var want []int
			lost := api.ErrLost
			if i := slices.IndexFunc(bits, func(b uint64) bool { return b&gone == 0 }); i >= 0 {
				want, lost = chains[i], api.OK
			}
			if l, e := transfer.Without(n, spoilt); !slices.Equal(l, want) || e != lost {
				t.Fatalf("Without for %d: %v: %v %d, want %v %d", n, spoilt, l, e, want, lost)
			}
		}
	}
}

// P4.4: a spoilt 1, 2 or n, other numbers, equal ones, and as many as there can be.
func TestWithoutEdges(t *testing.T) {
	for _, x := range []struct {
		n      int
		spoilt []int
		want   []int
		e      api.Errno
	}{
		{1, nil, list(1), api.OK},
		{1, list(1), nil, api.ErrLost},
		{1, list(2, 46), list(1), api.OK},
		{2, list(1), nil, api.ErrLost},
		{2, list(2), nil, api.ErrLost},
		{46, list(2), nil, api.ErrLost},
		{46, list(46), nil, api.ErrLost},
		{46, list(0, 5, 1), nil, api.ErrLost},
		{3, list(4, 0, -3, math.MaxInt, math.MinInt, 47), list(1, 2, 3), api.OK},
		{5, list(3), list(1, 2, 4, 5), api.OK},
		{5, list(4), list(1, 2, 3, 5), api.OK},
		{5, list(4, 3), nil, api.ErrLost},
		{5, slices.Repeat(list(4), 12), list(1, 2, 3, 5), api.OK},
		{5, slices.Repeat(list(4), 13), nil, api.ErrMany},
		{5, append(make([]int, 12), 5), nil, api.ErrMany},
		{1, make([]int, 13), nil, api.ErrMany},
		{46, make([]int, 5000), nil, api.ErrMany},
	} {
		if l, e := transfer.Without(x.n, x.spoilt); !slices.Equal(l, x.want) || e != x.e {
			t.Errorf("Without for %d: %v: %v %d, want %v %d", x.n, x.spoilt, l, e, x.want, x.e)
		}
	}
}
