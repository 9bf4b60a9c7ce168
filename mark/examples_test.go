package mark_test

import (
	"slices"
	"testing"

	"tusche/api"
	"tusche/mark"
)

// The rows of the chapter's table of examples, in its order.

func TestExampleDistance(t *testing.T) {
	if n := distance(t, exampleC()); n != 3 {
		t.Errorf("Distance of C: %d", n)
	}
	if n := distance(t, exampleD()); n != 1 {
		t.Errorf("Distance of D: %d", n)
	}
}

func TestExampleMakes(t *testing.T) {
	if e := mark.Makes(exampleC(), list(0, 1), word("011")); e != api.OK {
		t.Errorf("Makes of C: 0 1 1: %d", e)
	}
	if e := mark.Makes(exampleC(), list(0, 1), word("012")); e != api.ErrProof {
		t.Errorf("Makes of C: 0 1 2: %d", e)
	}
}

func TestExampleCopies(t *testing.T) {
	for _, x := range []struct {
		c         mark.Code
		coalition []int
		want      int
	}{{exampleC(), list(0, 1), 8}, {exampleD(), list(0, 3), 4}, {exampleD(), list(0, 1), 2}} {
		if n := copies(t, x.c, x.coalition); n != x.want {
			t.Errorf("Copies of %v: %v: %d, want %d", x.c, x.coalition, n, x.want)
		}
	}
}

func TestExampleFewest(t *testing.T) {
	if l, e := mark.Fewest(exampleC(), word("012")); !slices.Equal(l, list(0, 1, 2)) || e != api.OK {
		t.Errorf("Fewest of C: 0 1 2: %v %d", l, e)
	}
	if l, e := mark.Fewest(exampleD(), word("01")); !slices.Equal(l, list(1)) || e != api.OK {
		t.Errorf("Fewest of D: 0 1: %v %d", l, e)
	}
}

func TestExampleLean(t *testing.T) {
	if l := lean(t, exampleD(), word("01"), 2); !equalLists(l, lists(list(0, 3), list(1))) {
		t.Errorf("Lean of D: 0 1, 2: %v", l)
	}
}

func TestExampleGuilty(t *testing.T) {
	if l := guilty(t, exampleC(), word("011"), 2); !slices.Equal(l, list(0, 1)) {
		t.Errorf("Guilty of C: 0 1 1, 2: %v", l)
	}
	if l := guilty(t, exampleD(), word("01"), 2); len(l) != 0 {
		t.Errorf("Guilty of D: 0 1, 2: %v", l)
	}
	if l := guilty(t, exampleD(), word("01"), 1); !slices.Equal(l, list(1)) {
		t.Errorf("Guilty of D: 0 1, 1: %v", l)
	}
}

func TestExampleNearest(t *testing.T) {
	if l := nearest(t, exampleC(), word("011")); !slices.Equal(l, list(1)) {
		t.Errorf("Nearest of C: 0 1 1: %v", l)
	}
}

func TestExampleFrames(t *testing.T) {
	if l, n, e := mark.Frames(exampleC(), 2); len(l) != 0 || n != 0 || e != api.ErrNone {
		t.Errorf("Frames of C, 2: %v %d %d", l, n, e)
	}
	if l, n, e := mark.Frames(exampleD(), 2); !slices.Equal(l, list(0, 3)) || n != 1 || e != api.OK {
		t.Errorf("Frames of D, 2: %v %d %d", l, n, e)
	}
}

func TestExampleDoubtful(t *testing.T) {
	if d, e := mark.Doubtful(exampleC()); !isNone(d) || e != api.ErrLost {
		t.Errorf("Doubtful of C: %v %d", d, e)
	}
	if e := mark.Verify(exampleD(), mark.Doubt{Copy: word("01"), Coalitions: lists(list(1), list(0, 3))}); e != api.OK {
		t.Errorf("Verify of D: %d", e)
	}
}
