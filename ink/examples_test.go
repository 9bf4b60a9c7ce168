package ink_test

import (
	"slices"
	"testing"

	"tusche/api"
	"tusche/ink"
)

// The rows of the chapter's table of examples, in its order.

func TestExampleGives(t *testing.T) {
	for _, x := range []struct{ sequence, want []int }{
		{list(0), list(0, 1)},
		{list(0, 1), list(0, 1, 2, 3)},
		{list(2, 0), list(0, 1, 4)},
	} {
		if l, e := ink.Gives(exampleP(), x.sequence); !slices.Equal(l, x.want) || e != api.OK {
			t.Errorf("Gives of P: %v: %v %d, want %v", x.sequence, l, e, x.want)
		}
	}
}

func TestExampleColour(t *testing.T) {
	if c, e := ink.Colour(exampleP(), list(0, 1), yes(true, true)); c != 3 || e != api.OK {
		t.Errorf("Colour of P: both: %d %d", c, e)
	}
	if c, e := ink.Colour(exampleP(), list(0, 1), yes(false, true)); c != 2 || e != api.OK {
		t.Errorf("Colour of P: the second: %d %d", c, e)
	}
}

func TestExampleChoose(t *testing.T) {
	if l, e := ink.Choose(exampleP(), list(0, 1, 2), 4); !slices.Equal(l, yes(false, false, true)) || e != api.OK { // the only one with one stone
		t.Errorf("Choose of P: 0, 1, 2, colour 4: %v %d", l, e)
	}
	if l, e := ink.Choose(exampleP(), list(2, 0), 3); len(l) != 0 || e != api.ErrLost {
		t.Errorf("Choose of P: 2, 0, colour 3: %v %d", l, e)
	}
}

func TestExampleFewest(t *testing.T) {
	for _, x := range []struct{ sketch, want []int }{
		{list(1, 2), list(0, 1)},
		{list(3, 4), list(0, 1, 2)},
		{list(4), list(2)},
	} {
		if l, e := ink.Fewest(exampleP(), x.sketch); !slices.Equal(l, x.want) || e != api.OK {
			t.Errorf("Fewest of P: %v: %v %d, want %v", x.sketch, l, e, x.want)
		}
	}
}

func TestExampleStones(t *testing.T) {
	if n, e := ink.Stones(exampleP(), 3); n != 2 || e != api.OK {
		t.Errorf("Stones of P: 3: %d %d", n, e)
	}
	if n, e := ink.Stones(exampleP(), 0); n != 0 || e != api.OK {
		t.Errorf("Stones of P: 0: %d %d", n, e)
	}
}

func TestExampleSpare(t *testing.T) {
	if l, e := ink.Spare(exampleP(), list(0, 0, 1)); !slices.Equal(l, list(0, 1)) || e != api.OK {
		t.Errorf("Spare of P: 0, 0, 1: %v %d", l, e)
	}
}

func TestExampleOrder(t *testing.T) {
	if l, n, e := ink.Order(exampleP(), list(2, 1, 0)); !slices.Equal(l, list(0, 1, 2)) || n != 5 || e != api.OK {
		t.Errorf("Order of P: 2, 1, 0: %v %d %d", l, n, e)
	}
}

func TestExampleEver(t *testing.T) {
	if l, e := ink.Ever(exampleP()); !slices.Equal(l, list(0, 1, 2, 3, 4)) || e != api.OK {
		t.Errorf("Ever of P: %v %d", l, e)
	}
	if e := ink.Excludes(without2(), list(0, 1, 2, 3), 4); e != api.OK {
		t.Errorf("Excludes of P without the ink 2: 0, 1, 2, 3 and 4: %d", e)
	}
}

// The document's second example in words: three stones give all five colours, and no two do.
func TestExampleInWords(t *testing.T) {
	if l := gives(t, exampleP(), list(0, 1, 2)); !slices.Equal(l, list(0, 1, 2, 3, 4)) {
		t.Errorf("Gives of P: 0, 1, 2: %v", l)
	}
	for _, sequence := range lists(3, 2) {
		if l := gives(t, exampleP(), sequence); len(l) > 4 {
			t.Errorf("Gives of P: %v: %v", sequence, l)
		}
	}
}
