package fold_test

import (
	"slices"
	"testing"

	"tusche/api"
	"tusche/fold"
)

// The rows of the chapter's table of examples, in its order.

func TestExamplePlaces(t *testing.T) {
	want := []api.Bounds{{Least: 0, Most: 3}, {Least: 2, Most: 3}, {Least: 2, Most: 4}}
	if l, e := fold.Places(exampleS()); !slices.Equal(l, want) || e != api.OK {
		t.Errorf("Places of S: %v %d", l, e)
	}
}

func TestExampleOrder(t *testing.T) {
	if l, e := fold.Order(exampleS()); !slices.Equal(l, list(0, 1, 2)) || e != api.OK {
		t.Errorf("Order of S: %v %d", l, e)
	}
	if n, e := fold.Count(exampleS()); n != 1 || e != api.OK {
		t.Errorf("Count of S: %d %d", n, e)
	}
	if l, e := fold.Order(exampleT()); len(l) != 0 || e != api.ErrLost {
		t.Errorf("Order of T: %v %d", l, e)
	}
	if l, e := fold.Can(exampleT()); len(l) != 0 || e != api.OK {
		t.Errorf("Can of T: %v %d", l, e)
	}
}

func TestExampleSteps(t *testing.T) {
	if l, e := fold.Can(exampleS()); !slices.Equal(l, list(1)) || e != api.OK {
		t.Errorf("Can of S: %v %d", l, e)
	}
	if s, e := fold.Do(exampleS(), 1); !equal(s, strip("", 4)) || e != api.OK {
		t.Errorf("Do of S: 1: %v %d", s, e)
	}
	if s, e := fold.Do(exampleS(), 2); !equal(s, fold.Strip{}) || e != api.ErrProof {
		t.Errorf("Do of S: 2: %v %d", s, e)
	}
	if l, e := fold.Steps(exampleS()); !slices.Equal(l, list(1)) || e != api.OK { // the only ones
		t.Errorf("Steps of S: %v %d", l, e)
	}
}

func TestExampleLies(t *testing.T) {
	if e := fold.Lies(exampleS(), list(0, 1, 2)); e != api.OK {
		t.Errorf("Lies of S: 0, 1, 2: %d", e)
	}
	if e := fold.Lies(exampleS(), list(1, 0, 2)); e != api.ErrProof {
		t.Errorf("Lies of S: 1, 0, 2: %d", e)
	}
}

func TestExampleCounts(t *testing.T) {
	if n, e := fold.Count(strip("vv", 1, 1, 1)); n != 2 || e != api.OK {
		t.Errorf("Count of 1, 1, 1 with vv: %d %d", n, e)
	}
	if n, e := fold.All(list(1, 1, 1)); n != 6 || e != api.OK {
		t.Errorf("All of 1, 1, 1: %d %d", n, e)
	}
	if n, e := fold.All(list(2, 1, 1, 2)); n != 6 || e != api.OK {
		t.Errorf("All of 2, 1, 1, 2: %d %d", n, e)
	}
}
