package rack_test

import (
	"slices"
	"testing"

	"tusche/api"
	"tusche/rack"
)

func list(l ...int) []int { return l }

func rod(row, column int) rack.Brace {
	return rack.Brace{Row: row, Column: column, Kind: rack.Rod}
}

func up(row, column int) rack.Brace {
	return rack.Brace{Row: row, Column: column, Kind: rack.Up}
}

func down(row, column int) rack.Brace {
	return rack.Brace{Row: row, Column: column, Kind: rack.Down}
}

func grid(rows, columns int, braces ...rack.Brace) rack.Rack {
	return rack.Rack{Rows: rows, Columns: columns, Braces: slices.Clone(braces)}
}

// drawn returns a rack with a text for each row, and in it a letter for each square: R for a rod, U for a cable Up, D for a cable Down, and another one for nothing. Its braces come row by row.
func drawn(rows ...string) rack.Rack {
	r := grid(len(rows), len(rows[0]))
	for row, text := range rows {
		for column := range len(text) {
			switch text[column] {
			case 'R':
				r.Braces = append(r.Braces, rod(row, column))
			case 'U':
				r.Braces = append(r.Braces, up(row, column))
			case 'D':
				r.Braces = append(r.Braces, down(row, column))
			}
		}
	}
	return r
}

// exampleR, exampleS and exampleC are R, S and C of the chapter's examples.
func exampleR() rack.Rack { return drawn("RR.", ".RR") }
func exampleS() rack.Rack { return drawn("RR", "RR") }
func exampleC() rack.Rack { return drawn("UD") }

// with returns a rack with braces in addition.
func with(r rack.Rack, braces ...rack.Brace) rack.Rack {
	return grid(r.Rows, r.Columns, slices.Concat(r.Braces, braces)...)
}

// without returns a rack without one of its braces.
func without(r rack.Rack, brace int) rack.Rack {
	return grid(r.Rows, r.Columns, slices.Concat(r.Braces[:brace], r.Braces[brace+1:])...)
}

// only returns a rack with just these of its braces.
func only(r rack.Rack, indices []int) rack.Rack {
	other := grid(r.Rows, r.Columns)
	for _, i := range indices {
		other.Braces = append(other.Braces, r.Braces[i])
	}
	return other
}

// onlyRods reports whether no brace is a cable.
func onlyRods(r rack.Rack) bool {
	return !slices.ContainsFunc(r.Braces, func(b rack.Brace) bool { return b.Kind != rack.Rod })
}

// ring returns a rack with as many rows as columns, with cables along which one can go around once, and no other way.
func ring(side int) rack.Rack {
	r := grid(side, side)
	for i := range side {
		r.Braces = append(r.Braces, up(i, i), down((i+1)%side, i))
	}
	return r
}

// rodRing is such a ring of rods.
func rodRing(side int) rack.Rack {
	r := ring(side)
	for i := range r.Braces {
		r.Braces[i].Kind = rack.Rod
	}
	return r
}

// everySquare returns all racks of a size with nothing or one of some kinds in each square.
func everySquare(rows, columns int, kinds ...int) []rack.Rack {
	all := []rack.Rack{grid(rows, columns)}
	for square := range rows * columns {
		for _, r := range all {
			for _, kind := range kinds {
				all = append(all, with(r, rack.Brace{Row: square / columns, Column: square % columns, Kind: kind}))
			}
		}
	}
	return all
}

// smallRacks returns all racks of the smallest sizes, with at most one brace in a square, and some with two or three in one.
func smallRacks() []rack.Rack {
	var all []rack.Rack
	for _, size := range [][2]int{{1, 1}, {1, 2}, {2, 1}, {1, 3}, {3, 1}, {2, 2}} {
		all = append(all, everySquare(size[0], size[1], rack.Rod, rack.Up, rack.Down)...)
	}
	for i, r := range everySquare(2, 2, rack.Rod, rack.Up, rack.Down) {
		all = append(all, with(r, up(0, 0), down(0, 0)), with(r, rack.Brace{Row: i % 2, Column: i / 2 % 2, Kind: i / 4 % 3}))
	}
	for _, size := range [][2]int{{2, 3}, {3, 2}} {
		for i, r := range everySquare(size[0], size[1], rack.Rod, rack.Up, rack.Down) {
			if i%11 == 5 {
				all = append(all, r)
			}
		}
		all = append(all, everySquare(size[0], size[1], rack.Rod)...)
	}
	return all
}

// chance returns a function whose numbers follow from one number, and from no rule otherwise.
func chance(number int) func(limit int) int {
	state := uint32(number)
	return func(limit int) int {
		state = state*1664525 + 1013904223
		return int(state>>16) % limit
	}
}

// mixed returns a rack with braces of some kinds anywhere.
func mixed(rows, columns, braces, kinds, number int) rack.Rack {
	next := chance(number)
	r := grid(rows, columns)
	for range braces {
		r.Braces = append(r.Braces, rack.Brace{Row: next(rows), Column: next(columns), Kind: next(kinds)})
	}
	return r
}

// tree returns a stiff rack with as few rods as possible, and some braces of some kinds anywhere in addition, in no order.
func tree(rows, columns, more, kinds, number int) rack.Rack {
	next := chance(number)
	r := grid(rows, columns)
	for i := range max(rows, columns) {
		if i < columns {
			r.Braces = append(r.Braces, rod(next(min(i+1, rows)), i))
		}
		if i+1 < rows {
			r.Braces = append(r.Braces, rod(i+1, next(min(i+1, columns))))
		}
	}
	for range more {
		r.Braces = append(r.Braces, rack.Brace{Row: next(rows), Column: next(columns), Kind: next(kinds)})
	}
	for i := range r.Braces {
		j := next(i + 1)
		r.Braces[i], r.Braces[j] = r.Braces[j], r.Braces[i]
	}
	return r
}

// bigRacks returns racks of many sizes, up to 6 by 6 squares and 24 braces.
func bigRacks() []rack.Rack {
	all := []rack.Rack{exampleR(), exampleS(), exampleC(), grid(6, 6), grid(1, 6), grid(6, 1), mixed(6, 6, 24, 3, 1), mixed(6, 6, 24, 1, 2), tree(6, 6, 13, 1, 3), tree(6, 6, 13, 3, 4)}
	for side := 1; side <= rack.MaxSide; side++ {
		all = append(all, ring(side), rodRing(side), without(ring(side), side))
	}
	for rows := 1; rows <= rack.MaxSide; rows++ {
		for columns := 1; columns <= rack.MaxSide; columns++ {
			number := 10*rows + columns
			all = append(all, tree(rows, columns, number%4, 1, number), tree(rows, columns, number%5, 3, 3*number),
				mixed(rows, columns, 2+2*rows+columns, 1, 5*number), mixed(rows, columns, min(24, 4+2*rows+2*columns), 3, 7*number), mixed(rows, columns, columns, 3, 11*number))
		}
	}
	return all
}

// racks returns racks of all sizes.
func racks() []rack.Rack {
	return slices.Concat(smallRacks(), bigRacks())
}

// rodRacks returns those that have only rods.
func rodRacks() []rack.Rack {
	return slices.DeleteFunc(racks(), func(r rack.Rack) bool { return !onlyRods(r) })
}

// keeps reports whether a brace is kept if its row and its column turn so, as the chapter defines it.
func keeps(b rack.Brace, row, column int) bool {
	switch b.Kind {
	case rack.Rod:
		return row == column
	case rack.Up:
		return row <= column
	}
	return row >= column
}

// isMotion reports whether a motion of the right size keeps all braces.
func isMotion(r rack.Rack, m rack.Motion) bool {
	return !slices.ContainsFunc(r.Braces, func(b rack.Brace) bool { return !keeps(b, m.Rows[b.Row], m.Columns[b.Column]) })
}

// halves returns all motions of a rack with the numbers 0 and 1: a bit for each row and, after them, for each column.
func halves(r rack.Rack) []int {
	var all []int
	for bits := range 1 << (r.Rows + r.Columns) {
		if !slices.ContainsFunc(r.Braces, func(b rack.Brace) bool { return !keeps(b, bits>>b.Row&1, bits>>(r.Rows+b.Column)&1) }) {
			all = append(all, bits)
		}
	}
	return all
}

// companions returns, for each row and, after them, for each column, bits for all that have the same number in each motion with the numbers 0 and 1. (If a motion has different numbers for two of them, so has one with 0 and 1: that which has 1 just for all that are greater than the smaller one of the two.)
func companions(r rack.Rack) []int {
	size := r.Rows + r.Columns
	all := slices.Repeat(list(1<<size-1), size)
	for _, bits := range halves(r) {
		for place := range all {
			if bits>>place&1 == 1 {
				all[place] &= bits
			} else {
				all[place] &^= bits
			}
		}
	}
	return all
}

// isStiff reports whether a rack is stiff, as the chapter defines it.
func isStiff(r rack.Rack) bool {
	return len(halves(r)) == 2
}

// groups returns the groups of a rack, as the chapter defines them.
func groups(r rack.Rack) []rack.Group {
	var all []rack.Group
	for place, bits := range companions(r) {
		if bits&(1<<place-1) != 0 { // it is in an earlier group
			continue
		}
		var g rack.Group
		for row := range r.Rows {
			if bits>>row&1 == 1 {
				g.Rows = append(g.Rows, row)
			}
		}
		for column := range r.Columns {
			if bits>>(r.Rows+column)&1 == 1 {
				g.Columns = append(g.Columns, column)
			}
		}
		all = append(all, g)
	}
	return all
}

// equalGroups reports whether groups are the same.
func equalGroups(a, b []rack.Group) bool {
	return slices.EqualFunc(a, b, func(g, h rack.Group) bool { return slices.Equal(g.Rows, h.Rows) && slices.Equal(g.Columns, h.Columns) })
}

// visitChoices visits all ascending lists of so many numbers below a limit, in ascending order, until one is enough.
func visitChoices(limit, size int, enough func(l []int) bool) bool {
	var grow func(l []int, from int) bool
	grow = func(l []int, from int) bool {
		if len(l) == size {
			return enough(l)
		}
		for n := from; n < limit; n++ {
			if grow(append(l, n), n+1) {
				return true
			}
		}
		return false
	}
	return grow(nil, 0)
}

// isNone reports whether a motion has no numbers.
func isNone(m rack.Motion) bool {
	return len(m.Rows) == 0 && len(m.Columns) == 0
}

func stiff(t *testing.T, r rack.Rack) bool {
	t.Helper()
	is, e := rack.Stiff(r)
	if e != api.OK {
		t.Fatalf("Stiff of %v: %d", r, e)
	}
	return is
}

func groupsOf(t *testing.T, r rack.Rack) []rack.Group {
	t.Helper()
	l, e := rack.Groups(r)
	if e != api.OK {
		t.Fatalf("Groups of %v: %d", r, e)
	}
	return l
}

func needed(t *testing.T, r rack.Rack) []int {
	t.Helper()
	l, e := rack.Needed(r)
	if e != api.OK {
		t.Fatalf("Needed of %v: %d", r, e)
	}
	return l
}

func freedom(t *testing.T, r rack.Rack) int {
	t.Helper()
	n, e := rack.Freedom(r)
	if e != api.OK {
		t.Fatalf("Freedom of %v: %d", r, e)
	}
	return n
}

func missing(t *testing.T, r rack.Rack) []rack.Brace {
	t.Helper()
	l, e := rack.Missing(r)
	if e != api.OK {
		t.Fatalf("Missing of %v: %d", r, e)
	}
	return l
}

func ways(t *testing.T, rows, columns int) int {
	t.Helper()
	n, e := rack.Ways(rows, columns)
	if e != api.OK {
		t.Fatalf("Ways of %d, %d: %d", rows, columns, e)
	}
	return n
}
