package rack

import "tusche/api"

// Freedom returns how many rods are missing.
func Freedom(r Rack) (int, api.Errno) {
	if e := checkRods(r); e != api.OK {
		return 0, e
	}
	return len(groupsOf(r)) - 1, api.OK
}

// Missing returns rods that make a rack stiff.
func Missing(r Rack) ([]Brace, api.Errno) {
	if e := checkRods(r); e != api.OK {
		return nil, e
	}
	rods := everywhere(r)
	var missing []Brace
	for _, i := range joining(r, rods) {
		missing = append(missing, rods[i])
	}
	return missing, api.OK
}

// Trim returns the fewest braces that make a rack stiff.
func Trim(r Rack) ([]int, api.Errno) {
	if e := checkRods(r); e != api.OK {
		return nil, e
	}
	if !isStiff(r) {
		return nil, api.ErrOpen
	}
	return joining(Rack{Rows: r.Rows, Columns: r.Columns}, r.Braces), api.OK
}

// Detour returns a way of other braces from the row of a brace to its column.
func Detour(r Rack, brace int) ([]int, api.Errno) {
	if e := checkRods(r); e != api.OK {
		return nil, e
	}
	if !within(brace, len(r.Braces)) {
		return nil, api.ErrNone
	}
	way := arrowsOf(r).around(brace)
	if len(way) == 0 {
		return nil, api.ErrLost
	}
	return way, api.OK
}

// Ways returns in how many ways a rack can be braced with the fewest rods.
func Ways(rows, columns int) (int, api.Errno) {
	if !isSide(rows) || !isSide(columns) {
		return 0, api.ErrBounds
	}
	return power(rows, columns-1) * power(columns, rows-1), api.OK
}

// everywhere returns a rod for each square of a rack.
func everywhere(r Rack) []Brace {
	var rods []Brace
	for row := range r.Rows {
		for column := range r.Columns {
			rods = append(rods, Brace{Row: row, Column: column, Kind: Rod})
		}
	}
	return rods
}

// joining returns the indices of those rods that, added to a rack with only rods one after the other, join a row and a column that do not keep together yet.
// No fewer of the rods join as much; of the lists of as few that do, this is the first one, since a rod that joins something is taken as soon as it comes.
func joining(r Rack, rods []Brace) []int {
	a := arrowsOf(r)
	reaches := a.reaches
	var indices []int
	for i, rod := range rods {
		row, column := a.ends(rod)
		if !reaches(row, column) {
			a.draw(rod)
			indices = append(indices, i)
		}
	}
	return indices
}

// power returns a number that is multiplied by itself so many times.
func power(number, times int) int {
	product := 1
	for range times {
		product *= number
	}
	return product
}
