package weigh_test

import (
	"slices"
	"testing"

	"tusche/api"
	"tusche/weigh"
)

// The rows of the chapter's table of examples, in its order.

func TestExampleLoads(t *testing.T) {
	if l := loads(t, list(1, 3)); !slices.Equal(l, list(1, 2, 3, 4)) {
		t.Errorf("Loads of 1, 3: %v", l)
	}
	for _, x := range []struct {
		weights []int
		want    int
	}{{list(1, 3, 9), 13}, {list(1, 4), 1}, {list(2), 0}} {
		if n := reach(t, x.weights); n != x.want {
			t.Errorf("Reach of %v: %d, want %d", x.weights, n, x.want)
		}
	}
}

func TestExampleLay(t *testing.T) {
	if l, e := weigh.Lay(list(1, 3, 9), 5); !slices.Equal(l, list(-1, -1, 1)) || e != api.OK {
		t.Errorf("5 with 1, 3, 9: %v %d", l, e)
	}
	if l, e := weigh.Lay(list(1, 3, 4), 4); !slices.Equal(l, list(0, 0, 1)) || e != api.OK {
		t.Errorf("4 with 1, 3, 4: %v %d", l, e)
	}
}

func TestExampleBalances(t *testing.T) {
	if e := weigh.Balances(list(1, 3), list(1, -1), -2); e != api.OK {
		t.Errorf("1, -1 and -2: %d", e)
	}
	if e := weigh.Balances(list(1, 3), list(1, 1), 3); e != api.ErrProof {
		t.Errorf("1, 1 and 3: %d", e)
	}
}

func TestExampleFewest(t *testing.T) {
	if n := fewest(t, 13); n != 3 {
		t.Errorf("Fewest of 13: %d", n)
	}
	if n := fewest(t, 14); n != 4 {
		t.Errorf("Fewest of 14: %d", n)
	}
	if l, e := weigh.Set(13); len(l) != 3 || e != api.OK || reachOf(l) < 13 {
		t.Errorf("Set of 13: %v %d", l, e)
	}
}

func TestExampleShows(t *testing.T) {
	x := trial{3, plan(against(0, 1))}
	for c, want := range map[situation]int{{0, 1}: -1, {1, 1}: 1, {2, -1}: 0} {
		if l := shows(t, x, c); !slices.Equal(l, list(want)) {
			t.Errorf("%v: %v, want %d", c, l, want)
		}
	}
}

func TestExampleTwins(t *testing.T) {
	if a, b, e := weigh.Twins(3, plan(against(0, 1))); a != (situation{0, 0}) || b != (situation{2, 1}) || e != api.OK {
		t.Errorf("0 against 1: %v %v %d", a, b, e)
	}
}

func TestExampleLeft(t *testing.T) {
	if l := left(t, trial{3, plan(against(0, 1))}, list(-1)); !slices.Equal(l, []situation{{0, 1}, {1, -1}}) {
		t.Errorf("-1: %v", l)
	}
}

func TestExamplePlan(t *testing.T) {
	for _, x := range []struct {
		stones, weighings int
		want              api.Errno
	}{{3, 2, api.OK}, {12, 3, api.OK}, {13, 3, api.ErrLost}, {2, 3, api.ErrLost}} {
		p, e := weigh.Plan(x.stones, x.weighings)
		if e != x.want || e == api.OK && (len(p) != x.weighings || !tells(x.stones, p)) {
			t.Errorf("%v: %v %d", x, p, e)
		}
	}
	if !tells(3, plan(against(0, 1), against(0, 2))) {
		t.Errorf("0 against 1, and 0 against 2")
	}
}
