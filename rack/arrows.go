package rack

import "slices"

// arrows is a rack with its arrows, which lead from place to place. The places are the rows and, numbered after them, the columns.
type arrows struct {
	Rack
	leads [2 * MaxSide][2 * MaxSide]bool // whether an arrow leads from the first place to the second one
}

// arrowsOf returns a valid rack with its arrows.
func arrowsOf(r Rack) *arrows {
	a := &arrows{Rack: r}
	for _, b := range r.Braces {
		a.draw(b)
	}
	return a
}

// draw adds the arrows of a brace: they lead from a place that turns no more than the other one.
func (a *arrows) draw(b Brace) {
	row, column := a.ends(b)
	if b.Kind != Down {
		a.leads[row][column] = true
	}
	if b.Kind != Up {
		a.leads[column][row] = true
	}
}

// places returns how many places there are.
func (a *arrows) places() int {
	return a.Rows + a.Columns
}

// ends returns the places of a brace.
func (a *arrows) ends(b Brace) (row, column int) {
	return b.Row, a.Rows + b.Column
}

// across returns the other place of a brace, and whether it has the first one.
func (a *arrows) across(b Brace, place int) (int, bool) {
	row, column := a.ends(b)
	switch place {
	case row:
		return column, true
	case column:
		return row, true
	}
	return 0, false
}

// reaches reports whether one can go from one place to another one along arrows.
func (a *arrows) reaches(from, to int) bool {
	var passed [2 * MaxSide]bool
	var walk func(place int) bool
	walk = func(place int) bool {
		if place == to {
			return true
		}
		passed[place] = true
		for next, leads := range a.leads[place] {
			if leads && !passed[next] && walk(next) {
				return true
			}
		}
		return false
	}
	return walk(from)
}

// together reports whether two places keep together.
func (a *arrows) together(one, other int) bool {
	return a.reaches(one, other) && a.reaches(other, one)
}

// around returns other rods that are a way from the row of a rod to its column, or none if there is no way. All braces are rods.
func (a *arrows) around(rod int) []int {
	var used [MaxSide][MaxSide]bool
	passed := func(place int) bool { // one of its squares is used as soon as a way enters or leaves it
		return slices.ContainsFunc(a.Braces, func(b Brace) bool {
			_, is := a.across(b, place)
			return is && used[b.Row][b.Column]
		})
	}
	start, goal := a.ends(a.Braces[rod])
	var way []int
	var walk func(place int) bool
	walk = func(place int) bool {
		if place == goal {
			return true
		}
		for i, b := range a.Braces {
			next, is := a.across(b, place)
			if i == rod || !is || passed(next) {
				continue
			}
			used[b.Row][b.Column] = true // it stays so if it leads nowhere
			way = append(way, i)
			if walk(next) {
				return true
			}
			way = way[:len(way)-1]
		}
		return false
	}
	walk(start)
	return way
}
