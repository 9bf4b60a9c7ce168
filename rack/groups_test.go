package rack_test

import (
	"slices"
	"testing"

	"tusche/api"
	"tusche/rack"
)

// P5.3: by all motions with the numbers 0 and 1.
func TestGroups(t *testing.T) {
	for _, r := range racks() {
		if l, e := rack.Groups(r); !equalGroups(l, groups(r)) || e != api.OK {
			t.Fatalf("Groups of %v: %v %d, want %v", r, l, e, groups(r))
		}
	}
}

// P5.3: each alone, all in one, and the order: by first rows, then those without a row by first columns.
func TestGroupsEdges(t *testing.T) {
	for _, x := range []struct {
		rack rack.Rack
		want []rack.Group
	}{
		{grid(1, 1), []rack.Group{{Rows: list(0)}, {Columns: list(0)}}},
		{drawn("R"), []rack.Group{{Rows: list(0), Columns: list(0)}}},
		{grid(2, 3), []rack.Group{{Rows: list(0)}, {Rows: list(1)}, {Columns: list(0)}, {Columns: list(1)}, {Columns: list(2)}}},
		{drawn(".R", "R."), []rack.Group{{Rows: list(0), Columns: list(1)}, {Rows: list(1), Columns: list(0)}}},
		{drawn("...", "..R", ".U."), []rack.Group{{Rows: list(0)}, {Rows: list(1), Columns: list(2)}, {Rows: list(2)}, {Columns: list(0)}, {Columns: list(1)}}},
		{drawn("..R", "R..", "..R"), []rack.Group{{Rows: list(0, 2), Columns: list(2)}, {Rows: list(1), Columns: list(0)}, {Columns: list(1)}}},
		{drawn("UD", "DU"), []rack.Group{{Rows: list(0, 1), Columns: list(0, 1)}}},
		{drawn("UD.", "DU.", "..R"), []rack.Group{{Rows: list(0, 1), Columns: list(0, 1)}, {Rows: list(2), Columns: list(2)}}},
		{drawn("UDU", "DU.", "..R"), []rack.Group{{Rows: list(0, 1), Columns: list(0, 1)}, {Rows: list(2), Columns: list(2)}}}, // a cable does not join groups
		{ring(3), []rack.Group{{Rows: list(0, 1, 2), Columns: list(0, 1, 2)}}},
		{without(ring(2), 0), []rack.Group{{Rows: list(0)}, {Rows: list(1)}, {Columns: list(0)}, {Columns: list(1)}}},
	} {
		if l, e := rack.Groups(x.rack); !equalGroups(l, x.want) || e != api.OK {
			t.Errorf("Groups of %v: %v %d, want %v", x.rack, l, e, x.want)
		}
	}
}

// P5.4: each brace is left out.
func TestNeeded(t *testing.T) {
	for _, r := range racks() {
		var want []int
		e := api.ErrOpen
		if isStiff(r) {
			e = api.OK
			for i := range r.Braces {
				if !isStiff(without(r, i)) {
					want = append(want, i)
				}
			}
		}
		if l, f := rack.Needed(r); !slices.Equal(l, want) || f != e {
			t.Fatalf("Needed of %v: %v %d, want %v %d", r, l, f, want, e)
		}
	}
}

// P5.4: all, none, some, braces in one square, and racks that are not stiff.
func TestNeededEdges(t *testing.T) {
	for _, x := range []struct {
		rack rack.Rack
		want []int
		e    api.Errno
	}{
		{drawn("R"), list(0), api.OK},
		{grid(1, 1, rod(0, 0), rod(0, 0)), nil, api.OK},
		{grid(1, 1, rod(0, 0), up(0, 0)), list(0), api.OK},
		{grid(1, 1, up(0, 0), down(0, 0)), list(0, 1), api.OK},
		{grid(1, 1, up(0, 0), down(0, 0), up(0, 0)), list(1), api.OK},
		{grid(1, 1, up(0, 0), down(0, 0), rod(0, 0)), nil, api.OK},
		{ring(2), list(0, 1, 2, 3), api.OK},
		{rodRing(3), nil, api.OK},
		{drawn("RR.", "RRR"), list(4), api.OK},
		{drawn("RR", "UD"), list(0, 1, 2, 3), api.OK},
		{drawn("RR", "UR"), list(0, 1, 3), api.OK}, // one cannot come back by the cable
		{grid(1, 1), nil, api.ErrOpen},
		{exampleC(), nil, api.ErrOpen},
		{drawn("RR", ".."), nil, api.ErrOpen},
	} {
		if l, e := rack.Needed(x.rack); !slices.Equal(l, x.want) || e != x.e {
			t.Errorf("Needed of %v: %v %d, want %v %d", x.rack, l, e, x.want, x.e)
		}
	}
}
