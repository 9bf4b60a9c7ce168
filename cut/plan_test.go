package cut_test

import (
	"math"
	"slices"
	"testing"

	"tusche/api"
	"tusche/cut"
)

// checkPlan checks Plan and Blocked of a layout.
func checkPlan(t *testing.T, l cut.Layout) {
	t.Helper()
	plan, e := cut.Plan(l)
	place, f := cut.Blocked(l)
	if canBeCut(l) {
		if e != api.OK || verified(l, plan) != api.OK || cut.Verify(l, plan) != api.OK || f != api.ErrLost || place != (cut.Label{}) {
			t.Fatalf("%v: Plan %v %d, Verify %d, Blocked %v %d", l, plan, e, cut.Verify(l, plan), place, f)
		}
		return
	}
	s, known := squaresOf(l), map[cut.Label]bool{}
	s.pieces(whole(l), known)
	if e != api.ErrLost || len(plan) > 0 || f != api.OK || !known[place] || len(s.in(place)) < 2 || len(s.cuts(place)) > 0 {
		t.Fatalf("%v: Plan %v %d, Blocked %v %d", l, plan, e, place, f)
	}
}

// P6.2, P6.3: whether there is a plan, by a trial of all cuts; plans by the chapter's definition; that a piece is blocked, and that cuts lead to it.
func TestPlan(t *testing.T) {
	for _, l := range layouts() {
		checkPlan(t, l)
	}
}

// P6.2, P6.3: the same for a part of all layouts of 3 by 4 and 4 by 3.
func TestPlanOfMore(t *testing.T) {
	for _, size := range [][2]int{{3, 4}, {4, 3}} {
		number := 0
		visitLayouts(size[0], size[1], func(l cut.Layout) {
			number++
			if number%7 == 3 && len(l.Labels) <= cut.MaxLabels {
				checkPlan(t, l)
			}
		})
	}
}

// P6.2: no labels, and one.
func TestNothingToCut(t *testing.T) {
	for _, l := range []cut.Layout{sheet(1, 1), sheet(12, 12), sheet(1, 1, 0, 0, 1, 1), sheet(12, 12, 0, 0, 12, 12), sheet(12, 12, 5, 5, 1, 1)} {
		if plan := planOf(t, l); len(plan) != 0 {
			t.Errorf("Plan of %v: %v", l, plan)
		}
		if e := cut.Verify(l, nil); e != api.OK {
			t.Errorf("Verify of %v: %d", l, e)
		}
		if e := cut.Verify(l, cuts(up(1))); e != api.ErrShut {
			t.Errorf("Verify of %v with a cut: %d", l, e)
		}
	}
}

// P6.2: by all lists of up to three cuts.
func TestVerifyAll(t *testing.T) {
	var one, plans [][]cut.Cut
	for at := range 4 {
		one = append(one, cuts(up(at)), cuts(flat(at)))
	}
	plans = append(plans, nil)
	for first := 0; len(plans[len(plans)-1]) < 3; first++ {
		for _, c := range one {
			plans = append(plans, slices.Concat(plans[first], c))
		}
	}
	for i, l := range smallLayouts() {
		if i%7 != 0 {
			continue
		}
		for _, plan := range plans {
			if e := cut.Verify(l, plan); e != verified(l, plan) {
				t.Fatalf("Verify of %v with %v: %d, want %d", l, plan, e, verified(l, plan))
			}
		}
	}
}

// P6.2: plans with a cut that is missing, twice, another one, or in another place.
func TestVerifyChanged(t *testing.T) {
	seen := map[api.Errno]int{}
	for _, l := range bigLayouts() {
		plan, e := cut.Plan(l)
		if e != api.OK {
			plan = squaresOf(l).cuts(whole(l))
		}
		for i, c := range plan {
			others := [][]cut.Cut{plan, plan[:i], slices.Concat(plan[:i], plan[i+1:]), slices.Concat(plan[:i], cuts(c, c), plan[i+1:]), slices.Concat(plan, cuts(c))}
			for _, change := range cuts(up(c.At), flat(c.At), cut.Cut{Up: c.Up, At: c.At + 1}, cut.Cut{Up: c.Up, At: c.At - 1}) {
				others = append(others, slices.Concat(plan[:i], cuts(change), plan[i+1:]))
			}
			for j := range i {
				other := slices.Clone(plan)
				other[i], other[j] = other[j], other[i]
				others = append(others, other)
			}
			for _, other := range others {
				e := cut.Verify(l, other)
				seen[e]++
				if e != verified(l, other) {
					t.Fatalf("Verify of %v with %v: %d, want %d", l, other, e, verified(l, other))
				}
			}
		}
	}
	if seen[api.OK] < 100 || seen[api.ErrProof] < 100 || seen[api.ErrOpen] < 100 || seen[api.ErrShut] < 100 {
		t.Errorf("%v", seen)
	}
}

// P6.2: the left piece, and the lower one, come first; a cut that is none comes before the end of the list.
func TestVerifyInOrder(t *testing.T) {
	four := drawn("AC", "BC", "DE")
	for _, x := range []struct {
		layout cut.Layout
		plan   []cut.Cut
		want   api.Errno
	}{
		{drawn("AB", "CD"), cuts(up(1), flat(1), flat(1)), api.OK},
		{drawn("AB", "CD"), cuts(flat(1), up(1), up(1)), api.OK},
		{drawn("ABC", "ADE"), cuts(up(1), up(2), flat(1), flat(1)), api.OK},
		{drawn("AAB", "CDB"), cuts(up(2), flat(1), up(1)), api.OK},
		{four, cuts(flat(1), up(1), up(1), flat(2)), api.OK}, // the lower piece first
		{four, cuts(flat(1), up(1), flat(2), up(1)), api.ErrProof},
		{drawn("AAB", "CDE"), cuts(up(2), flat(1), up(1), flat(1)), api.OK}, // the left piece first
		{drawn("AAB", "CDE"), cuts(up(2), flat(1), flat(1), up(1)), api.ErrProof},
		{drawn("A.B"), cuts(up(2)), api.OK},
		{drawn("A.B"), cuts(up(1), up(2)), api.ErrShut},
		{drawn("A.B"), cuts(up(3)), api.ErrProof},
		{drawn("A.B"), cuts(flat(1)), api.ErrProof},
		{drawn("A.B"), cuts(flat(2)), api.ErrProof},
		{drawn("ABC"), cuts(up(1), up(1)), api.ErrProof}, // no cut of this piece any more
		{drawn("ABC"), cuts(up(1)), api.ErrOpen},
		{drawn("ABC"), nil, api.ErrOpen},
		{drawn("ABC"), cuts(up(1), up(2), up(9)), api.ErrShut},
		{drawn("AA", "BC"), cuts(up(1), flat(1)), api.ErrProof}, // through a label
		{exampleM(), nil, api.ErrOpen},
		{exampleM(), cuts(up(1)), api.ErrProof},
		{drawn("A.B"), cuts(up(math.MinInt)), api.ErrProof},
		{drawn("A.B"), cuts(up(math.MaxInt)), api.ErrProof},
		{drawn("A.B"), cuts(flat(math.MaxInt)), api.ErrProof},
	} {
		if e := cut.Verify(x.layout, x.plan); e != x.want {
			t.Errorf("Verify of %v with %v: %d, want %d", x.layout, x.plan, e, x.want)
		}
	}
}

// P6.3: a whirl within labels that can be cut off is the only piece that is blocked.
func TestBlocked(t *testing.T) {
	for _, x := range []struct {
		layout cut.Layout
		want   cut.Label
	}{
		{drawn("AAB", "C.B", "CDD"), cut.Label{W: 3, H: 3}},
		{drawn("EEEEE", "FAABG", "FC.BG", "FCDDG", "HHHHH"), cut.Label{X: 1, Y: 1, W: 3, H: 3}},
		{drawn("ABBB", "ACCD", "AE.D", "AEFF"), cut.Label{X: 1, Y: 0, W: 3, H: 3}},
		{drawn("AABEFF", "CGBHHI", "CDDH.I", "JJJJJJ"), cut.Label{}}, // no cut but the lowest one
	} {
		place, e := cut.Blocked(x.layout)
		if e != api.OK || x.want.W > 0 && place != x.want {
			t.Errorf("Blocked of %v: %v %d, want %v", x.layout, place, e, x.want)
		}
		checkPlan(t, x.layout)
	}
}
