package rack_test

import (
	"slices"
	"testing"

	"tusche/api"
	"tusche/rack"
)

// reached returns, for each row and, after them, for each column, bits for all that one can reach along arrows.
func reached(r rack.Rack) []int {
	var all []int
	for place := range r.Rows + r.Columns {
		all = append(all, 1<<place)
	}
	for range all { // no way needs more arrows
		for _, b := range r.Braces {
			row, column := b.Row, r.Rows+b.Column
			if b.Kind != rack.Down {
				all[row] |= all[column]
			}
			if b.Kind != rack.Up {
				all[column] |= all[row]
			}
		}
	}
	return all
}

// P5.8.
func TestArrows(t *testing.T) {
	for _, r := range racks() {
		all := reached(r)
		want := !slices.ContainsFunc(all, func(bits int) bool { return bits != 1<<len(all)-1 })
		if is := stiff(t, r); is != want {
			t.Fatalf("Stiff of %v: %t, want %t", r, is, want)
		}
	}
}

// P5.8: with only rods, it is one piece.
func TestPieces(t *testing.T) {
	for _, r := range rodRacks() {
		if all := reached(r); stiff(t, r) != (all[0] == 1<<len(all)-1) {
			t.Fatalf("Stiff of %v: %t", r, stiff(t, r))
		}
	}
}

// P5.9: a rack is stiff, or has a motion with 0 and 1; motions with three numbers do not tell more.
func TestMotions(t *testing.T) {
	for i, r := range smallRacks() {
		if r.Rows+r.Columns > 4 && i%13 != 0 {
			continue
		}
		moves := false
		for _, m := range turnsOf(r.Rows, r.Columns, 0, 1, 2) {
			moves = moves || rack.Verify(r, m) == api.OK
		}
		m, e := rack.Move(r)
		if is := stiff(t, r); is == moves || is != (e == api.ErrLost) || !is && rack.Verify(r, m) != api.OK {
			t.Fatalf("%v: Stiff %t, Move %v %d, and it moves: %t", r, is, m, e, moves)
		}
	}
}

// P5.9: rows and columns keep together just if each can be reached from the other one.
func TestTogether(t *testing.T) {
	for _, r := range racks() {
		all := reached(r)
		seen := 0
		for _, g := range groupsOf(t, r) {
			members := slices.Clone(g.Rows)
			for _, column := range g.Columns {
				members = append(members, r.Rows+column)
			}
			seen += len(members)
			for _, place := range members {
				for other := range all {
					is := all[place]>>other&1 == 1 && all[other]>>place&1 == 1
					if is != slices.Contains(members, other) {
						t.Fatalf("Groups of %v: %v: %d and %d", r, groupsOf(t, r), place, other)
					}
				}
			}
		}
		if seen != len(all) { // M2
			t.Fatalf("Groups of %v: %v", r, groupsOf(t, r))
		}
	}
}

// P5.10.
func TestFewest(t *testing.T) {
	for _, r := range rodRacks() {
		if n := freedom(t, r); n != len(missing(t, r)) || (n == 0) != stiff(t, r) {
			t.Fatalf("Freedom of %v: %d, Missing: %v", r, n, missing(t, r))
		}
		l, e := rack.Trim(r)
		if !stiff(t, r) {
			if len(l) != 0 || e != api.ErrOpen {
				t.Fatalf("Trim of %v: %v %d", r, l, e)
			}
			continue
		}
		if len(r.Braces) < r.Rows+r.Columns-1 || e != api.OK || len(l) != r.Rows+r.Columns-1 || !stiff(t, only(r, l)) {
			t.Fatalf("Trim of %v: %v %d", r, l, e)
		}
	}
}

// P5.10: what Trim returns needs each rod, and no smaller list would do: a rod that is left out joins nothing that those before it do not join.
func TestTrimIsFirst(t *testing.T) {
	for _, r := range rodRacks() {
		l, e := rack.Trim(r)
		if e != api.OK {
			continue
		}
		if n := needed(t, only(r, l)); len(n) != len(l) {
			t.Fatalf("Trim of %v: %v, of which only %v are needed", r, l, n)
		}
		for i := range r.Braces {
			before := slices.DeleteFunc(slices.Clone(l), func(n int) bool { return n >= i })
			if !slices.Contains(l, i) && freedom(t, only(r, append(before, i))) != freedom(t, only(r, before)) {
				t.Fatalf("Trim of %v: %v, without %d", r, l, i)
			}
		}
	}
}

// P5.11: a rod is needed just if there is no detour for it.
func TestDetours(t *testing.T) {
	for _, r := range rodRacks() {
		if !stiff(t, r) {
			continue
		}
		l := needed(t, r)
		for i := range r.Braces {
			_, e := rack.Detour(r, i)
			if is := slices.Contains(l, i); is != (e == api.ErrLost) || !is && e != api.OK {
				t.Fatalf("Needed of %v: %v, Detour for %d: %d", r, l, i, e)
			}
		}
	}
}

// P5.11, M7: if one brace breaks.
func TestOneBreaks(t *testing.T) {
	for _, r := range racks() {
		if !stiff(t, r) {
			continue
		}
		l := needed(t, r)
		for i := range r.Braces {
			if stiff(t, without(r, i)) == slices.Contains(l, i) {
				t.Fatalf("Needed of %v: %v, and without %d it is stiff: %t", r, l, i, stiff(t, without(r, i)))
			}
		}
	}
}

// P5.12.
func TestNumberOfWays(t *testing.T) {
	for m := 1; m <= rack.MaxSide; m++ {
		for n := 1; n <= rack.MaxSide; n++ {
			want := 1
			for range n - 1 {
				want *= m
			}
			for range m - 1 {
				want *= n
			}
			if w := ways(t, m, n); w != want {
				t.Errorf("Ways of %d, %d: %d, want %d", m, n, w, want)
			}
		}
	}
}

// widened reports whether each of some groups lies in one of other groups.
func widened(before, after []rack.Group) bool {
	holds := func(l, part []int) bool {
		return !slices.ContainsFunc(part, func(n int) bool { return !slices.Contains(l, n) })
	}
	return !slices.ContainsFunc(before, func(g rack.Group) bool {
		return !slices.ContainsFunc(after, func(h rack.Group) bool { return holds(h.Rows, g.Rows) && holds(h.Columns, g.Columns) })
	})
}

// checkMore checks that a rack holds what another one does.
func checkMore(t *testing.T, r, more rack.Rack) {
	t.Helper()
	if stiff(t, r) && !stiff(t, more) || !widened(groupsOf(t, r), groupsOf(t, more)) {
		t.Fatalf("Groups of %v: %v, of %v: %v", r, groupsOf(t, r), more, groupsOf(t, more))
	}
}

// P5.13, M1: one more brace, or a rod in the place of a cable.
func TestMoreBraces(t *testing.T) {
	for _, r := range racks() {
		if len(r.Braces) < rack.MaxBraces {
			for kind := range 3 {
				for i := range max(r.Rows, r.Columns) {
					checkMore(t, r, with(r, rack.Brace{Row: i % r.Rows, Column: (i + kind) % r.Columns, Kind: kind}))
				}
			}
		}
		for i, b := range r.Braces {
			if b.Kind != rack.Rod {
				checkMore(t, r, with(without(r, i), rod(b.Row, b.Column)))
			}
		}
	}
}

// mirrored returns a rack with rows and columns exchanged, and cables Up and Down with them.
func mirrored(r rack.Rack) rack.Rack {
	other := grid(r.Columns, r.Rows)
	for _, b := range r.Braces {
		kind := b.Kind
		switch b.Kind {
		case rack.Up:
			kind = rack.Down
		case rack.Down:
			kind = rack.Up
		}
		other.Braces = append(other.Braces, rack.Brace{Row: b.Column, Column: b.Row, Kind: kind})
	}
	return other
}

// sameGroups reports whether groups are the same, in whatever order.
func sameGroups(a, b []rack.Group) bool {
	return len(a) == len(b) && widened(a, b) && widened(b, a)
}

// checkSame checks that two racks with the same braces, but for names, get the same answers, and that a motion of the first one, and its groups, become those of the second one by other names.
func checkSame(t *testing.T, r, other rack.Rack, rename func(rows, columns []int) (newRows, newColumns []int)) {
	t.Helper()
	m, e := rack.Move(r)
	_, f := rack.Move(other)
	if stiff(t, r) != stiff(t, other) || e != f {
		t.Fatalf("Stiff of %v: %t, of %v: %t", r, stiff(t, r), other, stiff(t, other))
	}
	if e == api.OK {
		var turned rack.Motion
		turned.Rows, turned.Columns = rename(m.Rows, m.Columns)
		if e := rack.Verify(other, turned); e != api.OK {
			t.Fatalf("Verify of %v: %v: %d", other, turned, e)
		}
	} else if a, b := needed(t, r), needed(t, other); !slices.Equal(a, b) {
		t.Fatalf("Needed of %v: %v, of %v: %v", r, a, other, b)
	}
	if !onlyRods(r) {
		return
	}
	a, e := rack.Trim(r)
	b, f := rack.Trim(other)
	if freedom(t, r) != freedom(t, other) || len(missing(t, r)) != len(missing(t, other)) || !slices.Equal(a, b) || e != f {
		t.Fatalf("%v and %v: Freedom %d and %d, Trim %v %d and %v %d", r, other, freedom(t, r), freedom(t, other), a, e, b, f)
	}
	for i := range r.Braces {
		_, e := rack.Detour(r, i)
		if _, f := rack.Detour(other, i); e != f {
			t.Fatalf("Detour of %v, %d: %d, of %v: %d", r, i, e, other, f)
		}
	}
}

// P5.14: rows and columns exchanged.
func TestMirrored(t *testing.T) {
	for _, r := range racks() {
		other := mirrored(r)
		checkSame(t, r, other, func(rows, columns []int) ([]int, []int) { return columns, rows })
		var want []rack.Group
		for _, g := range groupsOf(t, r) {
			want = append(want, rack.Group{Rows: g.Columns, Columns: g.Rows})
		}
		if l := groupsOf(t, other); !sameGroups(l, want) {
			t.Fatalf("Groups of %v: %v, of %v: %v", r, groupsOf(t, r), other, l)
		}
	}
	for rows := 1; rows <= rack.MaxSide; rows++ {
		for columns := range rows {
			if a, b := ways(t, rows, columns+1), ways(t, columns+1, rows); a != b {
				t.Errorf("Ways of %d, %d: %d, exchanged %d", rows, columns+1, a, b)
			}
		}
	}
}

// turned returns numbers counted from the other end, in ascending order.
func turned(l []int, size int) []int {
	var other []int
	for _, n := range slices.Backward(l) {
		other = append(other, size-1-n)
	}
	return other
}

// reversed returns a list from its end on.
func reversed(l []int) []int {
	other := slices.Clone(l)
	slices.Reverse(other)
	return other
}

// P5.14, M5: the rows, and the columns, in another order.
func TestSidesRenamed(t *testing.T) {
	for _, r := range racks() {
		other := grid(r.Rows, r.Columns)
		for _, b := range r.Braces {
			other.Braces = append(other.Braces, rack.Brace{Row: r.Rows - 1 - b.Row, Column: r.Columns - 1 - b.Column, Kind: b.Kind})
		}
		checkSame(t, r, other, func(rows, columns []int) ([]int, []int) { return reversed(rows), reversed(columns) })
		var want []rack.Group
		for _, g := range groupsOf(t, r) {
			want = append(want, rack.Group{Rows: turned(g.Rows, r.Rows), Columns: turned(g.Columns, r.Columns)})
		}
		if l := groupsOf(t, other); !sameGroups(l, want) {
			t.Fatalf("Groups of %v: %v, of %v: %v", r, groupsOf(t, r), other, l)
		}
	}
}

// P5.14, M5: the braces in another order.
func TestBracesRenamed(t *testing.T) {
	for _, r := range racks() {
		other := with(r)
		slices.Reverse(other.Braces)
		if stiff(t, r) != stiff(t, other) || !equalGroups(groupsOf(t, r), groupsOf(t, other)) {
			t.Fatalf("Groups of %v: %v, of %v: %v", r, groupsOf(t, r), other, groupsOf(t, other))
		}
		if m, e := rack.Move(r); e == api.OK && rack.Verify(other, m) != api.OK {
			t.Fatalf("Verify of %v: %v: %d", other, m, rack.Verify(other, m))
		}
		if stiff(t, r) {
			if a, b := needed(t, r), needed(t, other); !slices.Equal(turned(a, len(r.Braces)), b) {
				t.Fatalf("Needed of %v: %v, of %v: %v", r, a, other, b)
			}
		}
		if onlyRods(r) && (freedom(t, r) != freedom(t, other) || len(missing(t, r)) != len(missing(t, other))) {
			t.Fatalf("Freedom of %v: %d, of %v: %d", r, freedom(t, r), other, freedom(t, other))
		}
	}
}
