package rack_test

import (
	"math"
	"slices"
	"testing"

	"tusche/api"
	"tusche/rack"
)

// bad is a rack with an error.
type bad struct {
	rack rack.Rack
	want api.Errno
}

// badRacks are racks that are not valid, with their errors.
func badRacks() []bad {
	rods := func(size int) []rack.Brace { return slices.Repeat([]rack.Brace{rod(0, 0)}, size) }
	all := []bad{
		{rack.Rack{}, api.ErrBounds},
		{grid(0, 0, rods(25)...), api.ErrBounds}, // the size comes before all other errors
		{grid(7, 7, rod(9, 9)), api.ErrBounds},
		{grid(6, 6, rods(25)...), api.ErrMany},
		{grid(1, 1, rods(5000)...), api.ErrMany},
		{grid(2, 2, append(rods(24), rod(5, 5))...), api.ErrMany}, // before what is wrong with a brace
		{grid(2, 2, append(rods(23), rod(2, 0))...), api.ErrNone},
		{grid(2, 3, rod(2, 2)), api.ErrNone},
		{grid(3, 2, rod(2, 2)), api.ErrNone},
		{grid(6, 6, rod(6, 5)), api.ErrNone},
		{grid(6, 6, rod(5, 6)), api.ErrNone},
		{grid(2, 2, rack.Brace{Row: 2, Kind: 3}), api.ErrNone}, // the square before the kind
		{grid(2, 2, rack.Brace{Column: -1, Kind: -1}), api.ErrNone},
		{grid(2, 2, rod(0, 0), rack.Brace{Kind: 3}, rod(2, 0)), api.ErrKind}, // the first brace with an error decides
		{grid(2, 2, up(0, 0), rod(2, 0), rack.Brace{Kind: 3}), api.ErrNone},
	}
	for _, n := range list(0, -1, 7, math.MinInt, math.MaxInt) {
		all = append(all, bad{grid(n, 3), api.ErrBounds}, bad{grid(3, n), api.ErrBounds})
	}
	for _, n := range list(-1, 4, 5, math.MinInt, math.MaxInt) {
		all = append(all, bad{grid(4, 4, rod(n, 1)), api.ErrNone}, bad{grid(4, 4, down(0, n)), api.ErrNone})
	}
	for _, n := range list(-1, 3, math.MinInt, math.MaxInt) {
		all = append(all, bad{grid(4, 4, rack.Brace{Row: 1, Column: 2, Kind: n}), api.ErrKind})
	}
	return all
}

// P5.1 to P5.6: all functions return the error of Check.
func TestBadRacks(t *testing.T) {
	for i, x := range badRacks() {
		a := ask(question{rack: x.rack, motion: rack.Motion{Rows: list(9999999)}, brace: -1, rows: 1, columns: 1})
		for j, e := range a.errors[:10] {
			if e != x.want {
				t.Errorf("%d: function %d of %v: %d, want %d", i, j, x.rack, e, x.want)
			}
		}
		if a.stiff || !isNone(a.motion) || len(a.groups) > 0 || len(a.needed) > 0 || a.freedom != 0 || len(a.missing) > 0 || len(a.trim) > 0 || len(a.detour) > 0 {
			t.Errorf("%d: %v: %v", i, x.rack, a)
		}
	}
}

// P5.1: the smallest and the greatest racks, and several braces in a square.
func TestCheckEdges(t *testing.T) {
	for _, r := range append(racks(),
		grid(1, 1), grid(6, 6), grid(1, 6), grid(6, 1), grid(6, 6, slices.Repeat([]rack.Brace{rod(5, 5)}, 24)...), grid(1, 1, rod(0, 0), up(0, 0), down(0, 0), rod(0, 0))) {
		if e := rack.Check(r); e != api.OK {
			t.Errorf("Check of %v: %d", r, e)
		}
	}
}

// P5.1: by all motions with the numbers 0 and 1.
func TestStiff(t *testing.T) {
	for _, r := range racks() {
		if is, e := rack.Stiff(r); is != isStiff(r) || e != api.OK {
			t.Fatalf("Stiff of %v: %t %d, want %t", r, is, e, isStiff(r))
		}
	}
}

// P5.1.
func TestStiffEdges(t *testing.T) {
	for _, x := range []struct {
		rack rack.Rack
		want bool
	}{
		{grid(1, 1), false},
		{grid(1, 1, rod(0, 0)), true},
		{grid(1, 1, up(0, 0)), false},
		{grid(1, 1, down(0, 0)), false},
		{grid(1, 1, up(0, 0), up(0, 0)), false},
		{grid(1, 1, up(0, 0), down(0, 0)), true},
		{drawn("RRRRRR"), true},
		{drawn("R", "R", "R", "R", "R", "."), false},
		{drawn("UD", "DU"), true}, // along the four arrows, one can go around
		{drawn("UU", "DD"), false},
		{drawn("UD", "UD"), false},
		{drawn("RR", "U."), false},
		{drawn("RR", "UD"), true},
		{ring(6), true},
		{without(ring(6), 7), false},
		{drawn("RRR...", "RRR...", "RRR...", "...RRR", "...RRR", "...RRR"), false}, // two pieces
	} {
		if is, e := rack.Stiff(x.rack); is != x.want || e != api.OK {
			t.Errorf("Stiff of %v: %t %d, want %t", x.rack, is, e, x.want)
		}
	}
}

// P5.5, P5.6: racks with cables. ErrKind is mentioned before all other errors but those of Check.
func TestNotOnlyRods(t *testing.T) {
	for _, r := range racks() {
		if onlyRods(r) {
			continue
		}
		for _, brace := range list(0, -1, len(r.Braces)) {
			a := ask(question{rack: r, brace: brace})
			if want := slices.Repeat([]api.Errno{api.ErrKind}, 4); !slices.Equal(a.errors[6:10], want) {
				t.Fatalf("%v: %v", r, a.errors)
			}
			if a.freedom != 0 || len(a.missing) > 0 || len(a.trim) > 0 || len(a.detour) > 0 {
				t.Fatalf("%v: %v", r, a)
			}
		}
	}
}
