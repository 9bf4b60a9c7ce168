package weigh_test

import (
	"math"
	"slices"
	"testing"

	"tusche/api"
	"tusche/weigh"
)

// P12.7, P12.10, M4, M7: all numbers of stones and weighings. What is returned is accepted, and tells all cases.
func TestPlan(t *testing.T) {
	for weighings, most := range list(1, 3, 9, 27) {
		for stones := 1; stones <= weigh.MaxStones; stones++ {
			want := api.ErrLost
			if stones >= 3 && 2*stones+3 <= most {
				want = api.OK
			}
			p, e := weigh.Plan(stones, weighings)
			if e != want {
				t.Fatalf("Plan of %d, %d: %d, want %d", stones, weighings, e, want)
			}
			if e != api.OK {
				if len(p) != 0 {
					t.Fatalf("Plan of %d, %d: %v", stones, weighings, p)
				}
				continue
			}
			for _, w := range p {
				if f := errorOf(stones, w); f != api.OK {
					t.Fatalf("Plan of %d, %d: %v: %d", stones, weighings, p, f)
				}
			}
			if len(p) != weighings || weigh.CheckPlan(stones, p) != api.OK || !tells(stones, p) || !saysTelling(t, trial{stones, p}) {
				t.Fatalf("Plan of %d, %d: %v", stones, weighings, p)
			}
		}
	}
}

// P12.7, P12.10: there is a plan just if one of all plans tells all cases, for few stones.
func TestPlanOfAll(t *testing.T) {
	for stones := 1; stones <= 4; stones++ {
		for weighings := range weigh.MaxWeighings + 1 {
			is := slices.ContainsFunc(everyPlan(stones, weighings), func(p []weigh.Weighing) bool { return tells(stones, p) })
			if _, e := weigh.Plan(stones, weighings); (e == api.OK) != is {
				t.Errorf("Plan of %d, %d: %d, but one does: %t", stones, weighings, e, is)
			}
		}
	}
}

// P12.10: no other plan tells more stones.
func TestNoneTellsMore(t *testing.T) {
	for _, x := range trials() {
		if saysTelling(t, x) && (x.stones < 3 || x.stones > 12 || len(x.plan) < 3 && x.stones > 3 || len(x.plan) < 2) {
			t.Fatalf("%v", x)
		}
	}
}

// P12.7: numbers that are out of range.
func TestPlanErrors(t *testing.T) {
	for _, x := range [][2]int{{0, 2}, {14, 3}, {-1, 3}, {3, -1}, {3, 4}, {12, 4}, {0, -1}, {14, 4}, {2, 4}, {math.MinInt, 2}, {math.MaxInt, 2}, {3, math.MinInt}, {3, math.MaxInt}} {
		if p, e := weigh.Plan(x[0], x[1]); len(p) != 0 || e != api.ErrSize {
			t.Errorf("Plan of %v: %v %d", x, p, e)
		}
	}
}
