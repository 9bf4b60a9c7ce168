package cross_test

import (
	"slices"
	"testing"

	"tusche/api"
	"tusche/cross"
)

// The rows of the chapter's table of examples, in its order.

func TestExampleTwice(t *testing.T) {
	if one, two, e := cross.Twice(list(0, 1, 4, 6)); one != (pair{}) || two != (pair{}) || e != api.ErrNone {
		t.Errorf("0, 1, 4, 6: %v %v %d", one, two, e)
	}
	if one, two, e := cross.Twice(list(0, 1, 2)); one != (pair{0, 1}) || two != (pair{1, 2}) || e != api.OK {
		t.Errorf("0, 1, 2: %v %v %d", one, two, e)
	}
}

func TestExampleDistances(t *testing.T) {
	if l := distances(t, list(0, 1, 4, 6)); !slices.Equal(l, list(1, 2, 3, 4, 5, 6)) {
		t.Errorf("Distances: %v", l)
	}
	if l := missing(t, list(0, 1, 4, 9, 11)); !slices.Equal(l, list(6)) {
		t.Errorf("Missing: %v", l)
	}
}

func TestExampleCommon(t *testing.T) {
	if n := common(t, list(0, 1, 4, 6), 3); n != 1 {
		t.Errorf("at 3: %d", n)
	}
	if n := common(t, list(0, 1, 4, 6), 0); n != 4 {
		t.Errorf("at 0: %d", n)
	}
}

func TestExampleLocate(t *testing.T) {
	for _, x := range []struct{ seen, want []int }{{list(0, 3), list(1)}, {list(1), list(5)}, {list(0, 1, 3), nil}} {
		if l := locate(t, list(0, 1, 4, 6), 3, x.seen); !slices.Equal(l, x.want) {
			t.Errorf("%v: %v, want %v", x.seen, l, x.want)
		}
	}
}

func TestExamplePlaces(t *testing.T) {
	if l := places(t, list(0, 1, 4), 9); !slices.Equal(l, list(6, 9)) {
		t.Errorf("0, 1, 4 up to 9: %v", l)
	}
}

func TestExampleShortest(t *testing.T) {
	if l := shortest(t, 4); !slices.Equal(l, list(0, 1, 4, 6)) {
		t.Errorf("4: %v", l)
	}
	if l := shortest(t, 7); !slices.Equal(l, list(0, 1, 4, 10, 18, 23, 25)) {
		t.Errorf("7: %v", l)
	}
}

func TestExampleBest(t *testing.T) {
	if e := cross.Best(list(0, 1, 4, 6)); e != api.OK {
		t.Errorf("0, 1, 4, 6: %d", e)
	}
	if e := cross.Best(list(0, 1, 4, 9)); e != api.ErrLost {
		t.Errorf("0, 1, 4, 9: %d", e)
	}
}

func TestExampleAround(t *testing.T) {
	if one, two, e := cross.Around(list(0, 1, 3), 7); one != (pair{}) || two != (pair{}) || e != api.ErrNone {
		t.Errorf("0, 1, 3, roller 7: %v %v %d", one, two, e)
	}
	if one, two, e := cross.Around(list(0, 1, 4, 6), 12); one != (pair{0, 3}) || two != (pair{3, 0}) || e != api.OK {
		t.Errorf("0, 1, 4, 6, roller 12: %v %v %d", one, two, e)
	}
}

func TestExampleRoller(t *testing.T) {
	if l, e := cross.Roller(4, 13); !slices.Equal(l, list(0, 1, 3, 9)) || e != api.OK {
		t.Errorf("4, 13: %v %d", l, e)
	}
	if l, e := cross.Roller(3, 6); len(l) != 0 || e != api.ErrLost {
		t.Errorf("3, 6: %v %d", l, e)
	}
}
