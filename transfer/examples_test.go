package transfer_test

import (
	"slices"
	"testing"

	"tusche/api"
	"tusche/transfer"
)

// The rows of the chapter's table of examples, in its order.

func TestExampleDistance(t *testing.T) {
	for _, x := range []struct{ n, want int }{{1, 0}, {7, 4}, {15, 5}, {23, 6}, {31, 7}, {32, 5}} {
		if d, e := transfer.Distance(x.n); d != x.want || e != api.OK {
			t.Errorf("Distance of %d: %d %d, want %d", x.n, d, e, x.want)
		}
	}
}

func TestExampleChain(t *testing.T) {
	if l, e := transfer.Chain(7); !slices.Equal(l, list(1, 2, 3, 4, 7)) || e != api.OK {
		t.Errorf("Chain for 7: %v %d", l, e)
	}
	if l, e := transfer.Chain(15); !slices.Equal(l, list(1, 2, 3, 5, 10, 15)) || e != api.OK {
		t.Errorf("Chain for 15: %v %d", l, e)
	}
}

func TestExampleWays(t *testing.T) {
	want := [][2]int{{0, 0}, {1, 0}, {2, 2}, {3, 0}}
	if l, e := transfer.Ways(list(1, 2, 3, 6, 7)); !slices.Equal(l, want) || e != api.OK {
		t.Errorf("Ways of 1, 2, 3, 6, 7: %v %d", l, e)
	}
}

func TestExampleRow(t *testing.T) {
	if is, e := transfer.Row(list(1, 2, 3, 6, 7)); !is || e != api.OK {
		t.Errorf("Row of 1, 2, 3, 6, 7: %t %d", is, e)
	}
	if is, e := transfer.Row(list(1, 2, 4, 5, 8)); is || e != api.OK {
		t.Errorf("Row of 1, 2, 4, 5, 8: %t %d", is, e)
	}
}

func TestExampleReach(t *testing.T) {
	if l, e := transfer.Reach(3); !slices.Equal(l, list(1, 2, 3, 4, 5, 6, 8)) || e != api.OK {
		t.Errorf("Reach of 3: %v %d", l, e)
	}
}

func TestExampleCount(t *testing.T) {
	if c, e := transfer.Count(4); c != 1 || e != api.OK {
		t.Errorf("Count of 4: %d %d", c, e)
	}
	if c, e := transfer.Count(7); c != 5 || e != api.OK {
		t.Errorf("Count of 7: %d %d", c, e)
	}
}

func TestExampleWithout(t *testing.T) {
	if l, e := transfer.Without(7, list(3)); !slices.Equal(l, list(1, 2, 4, 5, 7)) || e != api.OK {
		t.Errorf("Without for 7: 3: %v %d", l, e)
	}
	if l, e := transfer.Without(7, list(2)); len(l) != 0 || e != api.ErrLost {
		t.Errorf("Without for 7: 2: %v %d", l, e)
	}
}

func TestExampleCost(t *testing.T) {
	if c, e := transfer.Cost(list(1, 2, 4, 8), transfer.Price{Same: 1, Two: 5}); c != 3 || e != api.OK {
		t.Errorf("Cost of 1, 2, 4, 8 with Same 1, Two 5: %d %d", c, e)
	}
}

func TestExampleCheck(t *testing.T) {
	if e := transfer.Check(list(1, 2, 5)); e != api.ErrProof {
		t.Errorf("Check of 1, 2, 5: %d", e)
	}
}
