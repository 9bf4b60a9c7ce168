package serial_test

import (
	"slices"
	"testing"

	"tusche/api"
	"tusche/serial"
)

// The rows of the chapter's table of examples, in its order.

func TestExampleTexts(t *testing.T) {
	if !serial.Name("stone") || serial.Name("Stone") {
		t.Error("Name of stone; of Stone")
	}
	if n, is := serial.Value("70"); n != 70 || !is {
		t.Errorf("Value of 70: %d %v", n, is)
	}
	for _, s := range []string{"007", "-1"} {
		if n, is := serial.Value(s); n != 0 || is {
			t.Errorf("Value of %s: %d %v", s, n, is)
		}
	}
}

func TestExampleTables(t *testing.T) {
	if table := line(t, 5, 2); !same(table, exampleT()) {
		t.Errorf("T: %v", table)
	}
	if table := line(t, 4, 1); !same(table, exampleU()) {
		t.Errorf("U: %v", table)
	}
	if table, e := serial.Line(4, 2); len(table) != 0 || e != api.ErrClash {
		t.Errorf("Line with base 4 and step 2: %v %d", table, e)
	}
}

func TestExampleStates(t *testing.T) {
	if s, e := serial.State(exampleT(), list(1, 2)); s != 4 || e != api.OK {
		t.Errorf("State of 1, 2: %d %d", s, e)
	}
	if d, e := serial.Digit(exampleT(), list(1, 2)); d != 2 || e != api.OK {
		t.Errorf("Digit of 1, 2: %d %d", d, e)
	}
	if d, e := serial.Digit(exampleT(), list(3)); d != 4 || e != api.OK {
		t.Errorf("Digit of 3: %d %d", d, e)
	}
	if e := serial.Right(exampleT(), list(1, 2, 2)); e != api.OK {
		t.Errorf("Right of 1, 2, 2: %d", e)
	}
	if e := serial.Right(exampleT(), list(1, 2, 3)); e != api.ErrProof {
		t.Errorf("Right of 1, 2, 3: %d", e)
	}
}

func TestExampleSpots(t *testing.T) {
	if l, e := serial.Blind(exampleT()); len(l) != 0 || e != api.OK {
		t.Errorf("Blind of T: %v %d", l, e)
	}
	if l, e := serial.Blind(exampleU()); len(l) != 24 || l[0] != spot(0, 0, 1) || e != api.OK {
		t.Errorf("Blind of U: %v %d", l, e)
	}
	if l, e := serial.Twins(exampleT()); len(l) != 0 || e != api.OK {
		t.Errorf("Twins of T: %v %d", l, e)
	}
	if l, e := serial.Twins(exampleU()); len(l) != 8 || l[0] != spot(0, 0, 2) || e != api.OK {
		t.Errorf("Twins of U: %v %d", l, e)
	}
}

func TestExampleCodes(t *testing.T) {
	fixes := []serial.Fix{{At: 0, Digit: 2}, {At: 1, Digit: 4}, {At: 2, Digit: 2}}
	if l, e := serial.Fixes(exampleT(), list(1, 2, 3)); !slices.Equal(l, fixes) || e != api.OK {
		t.Errorf("Fixes of 1, 2, 3: %v %d", l, e)
	}
	if l, e := serial.Swaps(exampleT(), list(2, 1, 2)); !slices.Equal(l, list(0)) || e != api.OK {
		t.Errorf("Swaps of 2, 1, 2: %v %d", l, e)
	}
	if d, e := serial.Restore(exampleT(), list(1, 2, 2), 0); d != 1 || e != api.OK {
		t.Errorf("Restore of 1, 2, 2 at 0: %d %d", d, e)
	}
	if c, e := serial.Code(exampleT(), 3, 7); !slices.Equal(c, list(1, 2, 2)) || e != api.OK {
		t.Errorf("Code of 3 digits, 7: %v %d", c, e)
	}
	if n, e := serial.Number(exampleT(), list(1, 2, 2)); n != 7 || e != api.OK {
		t.Errorf("Number of 1, 2, 2: %d %d", n, e)
	}
}
