package rack_test

import (
	"math"
	"slices"
	"testing"

	"tusche/api"
	"tusche/rack"
)

// P5.2.
func TestMove(t *testing.T) {
	for _, r := range racks() {
		m, e := rack.Move(r)
		if isStiff(r) {
			if !isNone(m) || e != api.ErrLost {
				t.Fatalf("Move of %v: %v %d, but it is stiff", r, m, e)
			}
			continue
		}
		turns := slices.Concat(m.Rows, m.Columns)
		if e != api.OK || len(m.Rows) != r.Rows || len(m.Columns) != r.Columns || slices.Min(turns) != 0 || slices.Max(turns) != 1 || !isMotion(r, m) {
			t.Fatalf("Move of %v: %v %d", r, m, e)
		}
	}
}

// P5.2: a rack without braces, one cable, and a row, a column or a piece that nothing holds.
func TestMoveEdges(t *testing.T) {
	for _, r := range []rack.Rack{
		grid(1, 1), grid(6, 6), drawn("U"), drawn("D"), drawn("RRRRR."), drawn("R", "R", "U"), drawn("R", "R", "D"), drawn("RRRRRR", "U....."),
		drawn("RR..", "RR..", "..RR", "..RR"), drawn("RR..", "RR.U", "..RR", "D.RR"), drawn("RR..", "RR.D", "..RR", "U.RR"), without(ring(6), 0), without(ring(6), 11),
	} {
		m, e := rack.Move(r)
		if f := rack.Verify(r, m); e != api.OK || f != api.OK {
			t.Errorf("Move of %v: %v %d, Verify: %d", r, m, e, f)
		}
	}
}

// turnsOf returns all motions of a size with some numbers.
func turnsOf(rows, columns int, numbers ...int) []rack.Motion {
	lists := [][]int{nil}
	for range rows + columns {
		var longer [][]int
		for _, l := range lists {
			for _, n := range numbers {
				longer = append(longer, append(slices.Clone(l), n))
			}
		}
		lists = longer
	}
	var all []rack.Motion
	for _, l := range lists {
		all = append(all, rack.Motion{Rows: l[:rows], Columns: l[rows:]})
	}
	return all
}

// P5.2: all motions with three numbers.
func TestVerify(t *testing.T) {
	for i, r := range smallRacks() {
		if r.Rows+r.Columns > 4 && i%29 != 0 {
			continue
		}
		for _, m := range turnsOf(r.Rows, r.Columns, -5, 0, 1000000) {
			want := api.OK
			switch {
			case len(slices.Compact(slices.Concat(m.Rows, m.Columns))) == 1:
				want = api.ErrSame
			case !isMotion(r, m):
				want = api.ErrProof
			}
			if e := rack.Verify(r, m); e != want {
				t.Fatalf("Verify of %v: %v: %d, want %d", r, m, e, want)
			}
		}
	}
}

// P5.2: motions of other sizes, numbers that are too small or too great, equal numbers, and the order of these errors.
func TestVerifyEdges(t *testing.T) {
	r := drawn("R.", ".U", "D.") // 3 rows, 2 columns
	for _, x := range []struct {
		rows, columns []int
		want          api.Errno
	}{
		{list(0, 0, 0), list(0, 1), api.OK},
		{list(-1000000, -1000000, 1000000), list(-1000000, 1000000), api.OK},
		{nil, nil, api.ErrSize},
		{list(0, 0, 0), nil, api.ErrSize},
		{nil, list(0, 1), api.ErrSize},
		{list(0, 0), list(0, 0, 1), api.ErrSize},
		{list(0, 0, 0, 0), list(0, 1), api.ErrSize},
		{list(0, 0, 0), list(0, 1, 1), api.ErrSize},
		{list(0, 0, 0), list(0), api.ErrSize},
		{list(0, 0, 9999999), list(0), api.ErrSize},
		{list(0, 0, 0), list(0, 1000001), api.ErrBounds},
		{list(0, 0, 1000001), list(0, 1), api.ErrBounds},
		{list(0, -1000001, 0), list(0, 1), api.ErrBounds},
		{list(-1000001, 0, 0), list(-1000001, 1), api.ErrBounds},
		{list(0, 0, math.MaxInt), list(0, 1), api.ErrBounds},
		{list(0, math.MinInt, 0), list(0, 1), api.ErrBounds},
		{list(0, 5, 0), list(1, 1000001), api.ErrBounds}, // nor is it a motion of the rack
		{list(1000001, 1000001, 1000001), list(1000001, 1000001), api.ErrBounds},
		{list(0, 0, 0), list(0, 0), api.ErrSame},
		{list(1000000, 1000000, 1000000), list(1000000, 1000000), api.ErrSame},
		{list(-1000000, -1000000, -1000000), list(-1000000, -1000000), api.ErrSame},
		{list(1, 0, 0), list(0, 0), api.ErrProof},   // the rod
		{list(0, 2, 0), list(0, 1), api.ErrProof},   // the cable Up
		{list(1, 0, 0), list(1, 0), api.ErrProof},   // the cable Down
		{list(1, -2, 9), list(1, -2), api.OK},       // all are kept
		{list(-3, -9, -3), list(-3, 8), api.OK},     // the cable Down just so
		{list(-3, 8, 1000000), list(-3, 8), api.OK}, // the cable Up just so
		{list(-3, 8, 1000000), list(-3, 7), api.ErrProof},
	} {
		if e := rack.Verify(r, rack.Motion{Rows: x.rows, Columns: x.columns}); e != x.want {
			t.Errorf("Verify of %v, %v: %d, want %d", x.rows, x.columns, e, x.want)
		}
	}
}
