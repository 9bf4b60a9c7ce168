package cut_test

import (
	"slices"
	"testing"

	"tusche/api"
	"tusche/cut"
)

// The rows of the chapter's table of examples, in its order.

func TestExampleCuts(t *testing.T) {
	if l, e := cut.Cuts(exampleL()); !slices.Equal(l, cuts(up(2))) || e != api.OK {
		t.Errorf("Cuts of L: %v %d", l, e)
	}
}

func TestExamplePlan(t *testing.T) {
	if e := cut.Verify(exampleL(), cuts(up(2), flat(2), up(4))); e != api.OK {
		t.Errorf("Verify of L with the plan of the table: %d", e)
	}
	if plan := planOf(t, exampleL()); cut.Verify(exampleL(), plan) != api.OK {
		t.Errorf("Plan of L: %v", plan)
	}
}

func TestExampleBlocked(t *testing.T) {
	if plan, e := cut.Plan(exampleM()); len(plan) > 0 || e != api.ErrLost {
		t.Errorf("Plan of M: %v %d", plan, e)
	}
	if place, e := cut.Blocked(exampleM()); place != (cut.Label{W: 3, H: 3}) || e != api.OK {
		t.Errorf("Blocked of M: %v %d", place, e)
	}
}

func TestExampleVerify(t *testing.T) {
	if e := cut.Verify(exampleL(), cuts(up(2), flat(2))); e != api.ErrOpen {
		t.Errorf("Verify of L, X = 2, Y = 2: %d", e)
	}
	if e := cut.Verify(exampleL(), cuts(up(3), flat(2), up(4))); e != api.ErrProof {
		t.Errorf("Verify of L, X = 3, Y = 2, X = 4: %d", e)
	}
}

func TestExampleBest(t *testing.T) {
	if n := best(t, 5, 4, kinds(cut.Kind{W: 2, H: 2, Value: 3}, cut.Kind{W: 3, H: 1, Value: 2})); n != 14 {
		t.Errorf("Best of 5 by 4: %d", n)
	}
}

func TestExampleWorth(t *testing.T) {
	k := kinds(cut.Kind{W: 2, H: 2, Value: 3}, cut.Kind{W: 2, H: 4, Value: 5}, cut.Kind{W: 4, H: 2, Value: 1})
	if n, e := cut.Worth(exampleL(), k); n != 12 || e != api.OK {
		t.Errorf("Worth of L: %d %d", n, e)
	}
}
