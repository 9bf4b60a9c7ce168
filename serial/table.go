package serial

import "tusche/api"

// Check returns the error of a table.
func Check(table [][]int) api.Errno {
	base := len(table)
	if base < minBase || base > MaxBase {
		return api.ErrSize
	}
	for _, row := range table {
		if len(row) != base {
			return api.ErrSize
		}
	}
	for _, row := range table {
		if outside(row, base) {
			return api.ErrBounds
		}
	}
	if repeats(table) {
		return api.ErrAgain
	}
	return api.OK
}

// Line returns a table that is computed with a step.
func Line(base, step int) ([][]int, api.Errno) {
	if base < minBase || base > MaxBase || step < 1 || step > base-1 {
		return nil, api.ErrBounds
	}
	if shared(base, step) > 1 {
		return nil, api.ErrClash
	}
	table := make([][]int, base)
	for s := range table {
		table[s] = make([]int, base)
		for d := range table[s] {
			table[s][d] = (step*s + d) % base
		}
	}
	return table, api.OK
}

// Blind returns where a table does not notice exchanged neighbours.
func Blind(table [][]int) ([]Spot, api.Errno) {
	return spots(table, func(s Spot) bool {
		return table[table[s.State][s.A]][s.B] == table[table[s.State][s.B]][s.A]
	})
}

// Twins returns where a table does not notice changed twins.
func Twins(table [][]int) ([]Spot, api.Errno) {
	return spots(table, func(s Spot) bool {
		return table[table[s.State][s.A]][s.A] == table[table[s.State][s.B]][s.B]
	})
}

// spots returns the error of Check, or all spots that are wanted.
func spots(table [][]int, wanted func(Spot) bool) ([]Spot, api.Errno) {
	if e := Check(table); e != api.OK {
		return nil, e
	}
	var found []Spot
	for state := range table {
		for a := range table {
			for b := a + 1; b < len(table); b++ {
				if s := (Spot{State: state, A: a, B: b}); wanted(s) {
					found = append(found, s)
				}
			}
		}
	}
	return found, api.OK
}

// outside reports whether one of some numbers is not from 0 to base - 1.
func outside(numbers []int, base int) bool {
	for _, n := range numbers {
		if n < 0 || n >= base {
			return true
		}
	}
	return false
}

// repeats reports whether a number occurs twice in a row or in a column of a square of numbers from 0 to its size - 1.
func repeats(square [][]int) bool {
	again := false
rows:
	for i := range square {
		var inRow, inColumn [MaxBase]bool
		for k := range square {
			across, down := square[i][k], square[k][i]
			if inRow[across] || inColumn[down] {
				again = true
				break rows
			}
			inRow[across], inColumn[down] = true, true
		}
	}
	return again
}

// shared returns the greatest number that divides both a and b.
func shared(a, b int) int {
	for b != 0 {
		a, b = b, a%b
	}
	return a
}
