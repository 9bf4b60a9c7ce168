package rack

import (
	"slices"

	"tusche/api"
)

// Move returns a motion of a rack that is not stiff.
func Move(r Rack) (Motion, api.Errno) {
	if e := Check(r); e != api.OK {
		return Motion{}, e
	}
	for place := range r.Rows + r.Columns {
		if turns := turnsAround(r, place); slices.Contains(turns, 1) {
			return Motion{Rows: slices.Clone(turns[:r.Rows]), Columns: slices.Clone(turns[r.Rows:])}, api.OK
		}
	}
	return Motion{}, api.ErrLost
}

// Verify checks a motion.
func Verify(r Rack, m Motion) api.Errno {
	if e := Check(r); e != api.OK {
		return e
	}
	if len(m.Rows) != r.Rows || len(m.Columns) != r.Columns {
		return api.ErrSize
	}
	turns := slices.Concat(m.Rows, m.Columns)
	least, most := slices.Min(turns), slices.Max(turns)
	switch {
	case least < -MaxTurn || most > MaxTurn:
		return api.ErrBounds
	case least == most:
		return api.ErrSame
	}
	for _, b := range r.Braces {
		if !keeps(m, b) {
			return api.ErrProof
		}
	}
	return api.OK
}

// turnsAround returns the numbers of a motion, by places: 0 for a place and all from which it can be reached, 1 for all others.
// No arrow leads from a 1 to a 0, since what leads to a place with a 0 has a 0 as well.
func turnsAround(r Rack, place int) []int {
	a := arrowsOf(r)
	reaches := a.reaches
	turns := make([]int, a.places())
	for other := range turns {
		if !reaches(other, place) {
			turns[other] = 1
		}
	}
	return turns
}

// keeps reports whether a motion keeps a brace.
func keeps(m Motion, b Brace) bool {
	row, column := m.Rows[b.Row], m.Columns[b.Column]
	switch b.Kind {
	case Up:
		return row <= column
	case Down:
		return row >= column
	}
	return row == column
}
