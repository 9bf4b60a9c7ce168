package serial_test

import (
	"slices"
	"testing"

	"tusche/api"
	"tusche/serial"
)

func list(l ...int) []int { return l }

func rows(l ...[]int) [][]int { return l }

func spot(s, a, b int) serial.Spot { return serial.Spot{State: s, A: a, B: b} }

// exampleT and exampleU are T and U of the chapter's examples, written out.
func exampleT() [][]int {
	return rows(list(0, 1, 2, 3, 4), list(2, 3, 4, 0, 1), list(4, 0, 1, 2, 3), list(1, 2, 3, 4, 0), list(3, 4, 0, 1, 2))
}

func exampleU() [][]int {
	return rows(list(0, 1, 2, 3), list(1, 2, 3, 0), list(2, 3, 0, 1), list(3, 0, 1, 2))
}

// skewed is a table that Line does not return: no digit keeps the state 0.
func skewed() [][]int {
	return rows(list(1, 0, 2, 3), list(3, 2, 0, 1), list(0, 1, 3, 2), list(2, 3, 1, 0))
}

// line returns a table of Line that has to exist.
func line(t *testing.T, base, step int) [][]int {
	t.Helper()
	table, e := serial.Line(base, step)
	if e != api.OK {
		t.Fatalf("Line of %d and %d: %d", base, step, e)
	}
	return table
}

// squares returns all tables of a base.
func squares(base int) [][][]int {
	var all [][][]int
	table := make([][]int, base)
	for s := range table {
		table[s] = make([]int, base)
	}
	var fill func(at int)
	fill = func(at int) {
		if at == base*base {
			all = append(all, copyOf(table))
			return
		}
		s, d := at/base, at%base
		for n := range base {
			free := !slices.Contains(table[s][:d], n)
			for above := range s {
				free = free && table[above][d] != n
			}
			if free {
				table[s][d] = n
				fill(at + 1)
			}
		}
	}
	fill(0)
	return all
}

// tables returns tables of many kinds: all small ones, and those of Line.
func tables(t *testing.T) [][][]int {
	t.Helper()
	all := slices.Concat(squares(2), squares(3), squares(4))
	for base := 5; base <= serial.MaxBase; base++ {
		for step := 1; step < base; step++ {
			if divisor(base, step) == 1 {
				all = append(all, line(t, base, step))
			}
		}
	}
	return all
}

// divisor returns the greatest number up to 10 that divides both a and b.
func divisor(a, b int) int {
	greatest := 1
	for n := 2; n <= 10; n++ {
		if a%n == 0 && b%n == 0 {
			greatest = n
		}
	}
	return greatest
}

// copyOf returns a copy of a table.
func copyOf(table [][]int) [][]int {
	out := make([][]int, len(table))
	for i, row := range table {
		out[i] = slices.Clone(row)
	}
	return out
}

// same reports whether two tables are equal.
func same(a, b [][]int) bool {
	return slices.EqualFunc(a, b, slices.Equal[[]int])
}

// walk returns the state after digits, as the chapter defines it.
func walk(table [][]int, digits []int) int {
	if len(digits) == 0 {
		return 0
	}
	last := len(digits) - 1
	return table[walk(table, digits[:last])][digits[last]]
}

// lists returns all lists of some digits, in ascending order.
func lists(base, size int) [][]int {
	if size == 0 {
		return rows(nil)
	}
	var all [][]int
	for _, head := range lists(base, size-1) {
		for d := range base {
			all = append(all, append(slices.Clone(head), d))
		}
	}
	return all
}

// rightCodes returns all right codes of some digits, in ascending order.
func rightCodes(table [][]int, size int) [][]int {
	var right [][]int
	for _, code := range lists(len(table), size) {
		if walk(table, code) == 0 {
			right = append(right, code)
		}
	}
	return right
}

// with returns a copy of a code with another digit at an index.
func with(code []int, at, digit int) []int {
	out := slices.Clone(code)
	out[at] = digit
	return out
}
