package hours

import "slices"

// none is in the place of a column, or of a row, that is not known.
const none = -1

// table is a square of hours. All its rows and columns have the same sum, the length of a plan; in each hour each row gets a column of its own, so that all of them are used up at the end.
// The first rows are the artists, and the first columns the machines. The columns after them are for artists without a machine, the rows after them for machines without an artist: so many of each that in every hour just as many artists have a machine as can work at the same time.
type table struct {
	hours   [][]int
	columns []int // by rows: the column that each had last, or none
	rows    []int // by columns, the same
}

// tableOf returns a table for a work, whose sums are the length of a plan.
func tableOf(work [][]int, seats, length int) *table {
	artists, machines := len(work), len(work[0])
	pairs := min(seats, artists, machines)
	size := artists + machines - pairs
	t := &table{hours: make([][]int, size), columns: slices.Repeat([]int{none}, size), rows: slices.Repeat([]int{none}, size)}
	for row := range t.hours {
		t.hours[row] = make([]int, size)
		if row < artists {
			copy(t.hours[row], work[row])
		}
	}
	t.fill(artists, machines, length, pairs*length-total(work))
	return t
}

// fill adds hours in which nobody works, until all sums are the length of a plan. In the spare ones artists have machines, in the others they have none.
// An hour goes where its row and its column have room. All spare hours find such a place: otherwise all artists, or all machines, would be full, and they are at least as many as can work at the same time.
func (t *table) fill(artists, machines, length, spare int) {
	for row := range t.hours {
		for column := range t.hours {
			more := min(length-rowSum(t.hours[row]), length-columnSum(t.hours, column))
			if row < artists && column < machines {
				more = min(more, spare)
				spare -= more
			}
			t.hours[row][column] += more
		}
	}
}

// next takes an hour from each row, and returns the columns with which they had it. Rows keep their columns as long as they can, so that a plan has few steps.
func (t *table) next() []int {
	for row, column := range t.columns {
		if column != none && t.hours[row][column] == 0 {
			t.columns[row], t.rows[column] = none, none
		}
	}
	for row := range t.columns {
		if t.columns[row] == none {
			t.place(row)
		}
	}
	for row, column := range t.columns {
		t.hours[row][column]--
	}
	return slices.Clone(t.columns)
}

// place gives a column to a row without one. Each row on a way from there to a free column leaves its own column to the row before it, and takes the next one. There is always a way, since all sums are the same.
func (t *table) place(first int) {
	from := slices.Repeat([]int{none}, len(t.rows)) // by columns: the row from which each was reached
	reached := []int{first}
	free := none
search:
	for len(reached) > 0 {
		row := reached[0]
		reached = reached[1:]
		for column, hours := range t.hours[row] {
			if hours == 0 || from[column] != none {
				continue
			}
			from[column] = row
			if t.rows[column] == none {
				free = column
				break search
			}
			reached = append(reached, t.rows[column])
		}
	}
	for free != none {
		row := from[free]
		left := t.columns[row]
		t.columns[row], t.rows[free] = free, row
		free = left
	}
}
