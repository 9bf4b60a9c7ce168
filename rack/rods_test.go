package rack_test

import (
	"math"
	"slices"
	"testing"

	"tusche/api"
	"tusche/rack"
)

// P5.5.
func TestFreedom(t *testing.T) {
	for _, r := range rodRacks() {
		if n, e := rack.Freedom(r); n != len(groups(r))-1 || e != api.OK {
			t.Fatalf("Freedom of %v: %d %d, want %d", r, n, e, len(groups(r))-1)
		}
	}
	for _, x := range []struct {
		rack rack.Rack
		want int
	}{{grid(1, 1), 1}, {drawn("R"), 0}, {grid(6, 6), 11}, {grid(1, 6), 6}, {grid(6, 6, slices.Repeat([]rack.Brace{rod(3, 3)}, 24)...), 10}, {exampleS(), 0}} {
		if n, e := rack.Freedom(x.rack); n != x.want || e != api.OK {
			t.Errorf("Freedom of %v: %d %d, want %d", x.rack, n, e, x.want)
		}
	}
}

// P5.5: what Missing returns makes the rack stiff.
func TestMissing(t *testing.T) {
	for _, r := range rodRacks() {
		l, e := rack.Missing(r)
		if e != api.OK || len(l) != len(groups(r))-1 {
			t.Fatalf("Missing of %v: %v %d", r, l, e)
		}
		for _, b := range l {
			if b.Kind != rack.Rod || b.Row < 0 || b.Row >= r.Rows || b.Column < 0 || b.Column >= r.Columns {
				t.Fatalf("Missing of %v: %v", r, l)
			}
		}
		if !isStiff(with(r, l...)) {
			t.Fatalf("Missing of %v: %v, with which it is not stiff", r, l)
		}
	}
}

// P5.5: fewer rods do not, wherever they are.
func TestNoFewerMissing(t *testing.T) {
	for _, r := range rodRacks() {
		l := missing(t, r)
		if r.Rows*r.Columns > 9 || len(l) == 0 {
			continue
		}
		if visitChoices(r.Rows*r.Columns, len(l)-1, func(squares []int) bool {
			var rods []rack.Brace
			for _, square := range squares {
				rods = append(rods, rod(square/r.Columns, square%r.Columns))
			}
			return isStiff(with(r, rods...))
		}) {
			t.Fatalf("Missing of %v: %v, but fewer are enough", r, l)
		}
	}
}

// P5.6: of all choices of rods.
func TestTrim(t *testing.T) {
	for _, r := range rodRacks() {
		if len(r.Braces) > 12 {
			continue
		}
		var want []int
		e := api.ErrOpen
		for size := range len(r.Braces) + 1 {
			if visitChoices(len(r.Braces), size, func(l []int) bool {
				want = slices.Clone(l)
				return isStiff(only(r, l))
			}) {
				e = api.OK
				break
			}
			want = nil
		}
		if l, f := rack.Trim(r); !slices.Equal(l, want) || f != e {
			t.Fatalf("Trim of %v: %v %d, want %v %d", r, l, f, want, e)
		}
	}
}

// P5.6: rods in one square, rods that come too late, the greatest racks, and racks that are not stiff.
func TestTrimEdges(t *testing.T) {
	for _, x := range []struct {
		rack rack.Rack
		want []int
		e    api.Errno
	}{
		{grid(1, 1, rod(0, 0)), list(0), api.OK},
		{grid(1, 1, slices.Repeat([]rack.Brace{rod(0, 0)}, 24)...), list(0), api.OK},
		{grid(1, 2, rod(0, 1), rod(0, 1), rod(0, 0), rod(0, 0)), list(0, 2), api.OK},
		{drawn("RR.", "RRR"), list(0, 1, 2, 4), api.OK},
		{rodRing(6), list(0, 1, 2, 3, 4, 5, 6, 7, 8, 9, 10), api.OK},
		{drawn("RRRRRR", "RRRRRR", "RRRRRR", "R.....", ".R....", "..R..."), list(0, 1, 2, 3, 4, 5, 6, 12, 18, 19, 20), api.OK},
		{drawn("RRRRRR", "RRRRRR", "RRRRRR", "R.....", ".R....", "......"), nil, api.ErrOpen},
		{grid(1, 1), nil, api.ErrOpen},
		{grid(6, 6), nil, api.ErrOpen},
	} {
		if l, e := rack.Trim(x.rack); !slices.Equal(l, x.want) || e != x.e {
			t.Errorf("Trim of %v: %v %d, want %v %d", x.rack, l, e, x.want, x.e)
		}
	}
}

// differ reports whether all numbers of a list are different.
func differ(l []int) bool {
	sorted := slices.Sorted(slices.Values(l))
	return len(slices.Compact(sorted)) == len(l)
}

// isDetour reports whether indices are a way from the row of a brace to its column by others, as the chapter defines it.
func isDetour(r rack.Rack, brace int, way []int) bool {
	b := r.Braces[brace]
	if len(way) == 0 || slices.Contains(way, brace) || slices.Min(way) < 0 || slices.Max(way) >= len(r.Braces) {
		return false
	}
	rows, columns := list(b.Row), list()
	for i, index := range way {
		next := r.Braces[index]
		if i%2 == 0 { // it is in the row of the one before it, and leads to its column
			if next.Row != rows[len(rows)-1] {
				return false
			}
			columns = append(columns, next.Column)
		} else {
			if next.Column != columns[len(columns)-1] {
				return false
			}
			rows = append(rows, next.Row)
		}
	}
	return len(way)%2 == 1 && columns[len(columns)-1] == b.Column && differ(rows) && differ(columns)
}

// P5.6.
func TestDetour(t *testing.T) {
	for _, r := range rodRacks() {
		for i, b := range r.Braces {
			l, e := rack.Detour(r, i)
			if companions(without(r, i))[b.Row]>>(r.Rows+b.Column)&1 == 0 {
				if len(l) != 0 || e != api.ErrLost {
					t.Fatalf("Detour of %v, %d: %v %d", r, i, l, e)
				}
			} else if e != api.OK || !isDetour(r, i, l) {
				t.Fatalf("Detour of %v, %d: %v %d", r, i, l, e)
			}
		}
	}
}

// P5.6: ways of which there is just one, and none.
func TestDetourEdges(t *testing.T) {
	for _, x := range []struct {
		rack  rack.Rack
		brace int
		want  []int
		e     api.Errno
	}{
		{grid(1, 1, rod(0, 0), rod(0, 0)), 0, list(1), api.OK},
		{grid(1, 1, rod(0, 0), rod(0, 0)), 1, list(0), api.OK},
		{grid(2, 2, rod(0, 0), rod(1, 1), rod(1, 1), rod(0, 1)), 2, list(1), api.OK},
		{exampleS(), 3, list(2, 0, 1), api.OK},
		{exampleS(), 1, list(0, 2, 3), api.OK},
		{drawn("RR..", "RR..", "...."), 2, list(3, 1, 0), api.OK}, // it is not stiff, but there is a way
		{rodRing(6), 0, list(11, 10, 9, 8, 7, 6, 5, 4, 3, 2, 1), api.OK},
		{rodRing(6), 11, list(0, 1, 2, 3, 4, 5, 6, 7, 8, 9, 10), api.OK},
		{drawn("RRRR", "RR..", "..RR"), 4, list(5, 1, 0), api.OK}, // past two rods that lead nowhere
		{drawn("RRRR", "RR..", "..RR"), 0, list(1, 5, 4), api.OK},
		{drawn("RRRR", "RR..", "..RR"), 3, list(2, 6, 7), api.OK},
		{exampleR(), 0, nil, api.ErrLost},
		{exampleR(), 2, nil, api.ErrLost},
		{drawn("R"), 0, nil, api.ErrLost},
		{drawn("R.", ".R"), 1, nil, api.ErrLost},
		{drawn("RR..", "RRR.", "..RR", "..RR"), 4, nil, api.ErrLost}, // between two rounds
		{exampleS(), 4, nil, api.ErrNone},
		{exampleS(), -1, nil, api.ErrNone},
		{exampleS(), math.MaxInt, nil, api.ErrNone},
		{exampleS(), math.MinInt, nil, api.ErrNone},
		{grid(2, 2), 0, nil, api.ErrNone},
	} {
		if l, e := rack.Detour(x.rack, x.brace); !slices.Equal(l, x.want) || e != x.e {
			t.Errorf("Detour of %v, %d: %v %d, want %v %d", x.rack, x.brace, l, e, x.want, x.e)
		}
	}
}

// P5.7: all sets of squares of small racks, from the smallest sets on.
func TestWays(t *testing.T) {
	for _, size := range [][2]int{{1, 1}, {1, 2}, {1, 6}, {6, 1}, {2, 2}, {2, 3}, {3, 2}, {2, 4}, {4, 2}, {3, 3}, {2, 6}, {3, 4}, {4, 3}} {
		rows, columns := size[0], size[1]
		full := grid(rows, columns)
		for square := range rows * columns {
			full.Braces = append(full.Braces, rod(square/columns, square%columns))
		}
		want := 0
		for fewest := 0; want == 0; fewest++ {
			visitChoices(rows*columns, fewest, func(l []int) bool {
				if isStiff(only(full, l)) {
					want++
				}
				return false
			})
		}
		if n, e := rack.Ways(rows, columns); n != want || e != api.OK {
			t.Errorf("Ways of %d, %d: %d %d, want %d", rows, columns, n, e, want)
		}
	}
}

// P5.7: sizes that no rack has.
func TestNotSides(t *testing.T) {
	for _, n := range list(0, -1, 7, math.MinInt, math.MaxInt) {
		for _, other := range list(1, 6, 0, 7) {
			if w, e := rack.Ways(n, other); w != 0 || e != api.ErrBounds {
				t.Errorf("Ways of %d, %d: %d %d", n, other, w, e)
			}
			if w, e := rack.Ways(other, n); w != 0 || e != api.ErrBounds {
				t.Errorf("Ways of %d, %d: %d %d", other, n, w, e)
			}
		}
	}
}
