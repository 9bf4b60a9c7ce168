package serial_test

import (
	"slices"
	"testing"

	"tusche/api"
	"tusche/serial"
)

// P1.9.
func TestOneDigit(t *testing.T) {
	for _, table := range tables(t) {
		for size := 2; size <= 3; size++ {
			for _, code := range lists(len(table), size) {
				if serial.Right(table, code) == api.OK {
					checkNoticed(t, table, code)
					continue
				}
				fixes, e := serial.Fixes(table, code)
				if e != api.OK || len(fixes) != size {
					t.Fatalf("Fixes of %v: %v: %v %d", table, code, fixes, e)
				}
				for at, f := range fixes {
					if f.At != at || f.Digit == code[at] || serial.Right(table, with(code, at, f.Digit)) != api.OK {
						t.Fatalf("Fixes of %v: %v: %v", table, code, fixes)
					}
				}
			}
		}
	}
}

// checkNoticed checks that each other digit makes a right code wrong.
func checkNoticed(t *testing.T, table [][]int, code []int) {
	t.Helper()
	for at := range code {
		for d := range table {
			if d != code[at] && serial.Right(table, with(code, at, d)) != api.ErrProof {
				t.Fatalf("%v: %v is right with a %d at %d, too", table, code, d, at)
			}
		}
	}
}

// neighbourTables are tables with and without blind spots and twins.
func neighbourTables(t *testing.T) [][][]int {
	return append(squares(3), exampleT(), exampleU(), skewed(), line(t, 5, 4), line(t, 6, 5))
}

// P1.10.
func TestNeighbours(t *testing.T) {
	for _, table := range neighbourTables(t) {
		blind, e := serial.Blind(table)
		twins, f := serial.Twins(table)
		if e != api.OK || f != api.OK {
			t.Fatalf("Blind and Twins of %v: %d %d", table, e, f)
		}
		for size := 2; size <= 4; size++ {
			for _, code := range rightCodes(table, size) {
				for i := range size - 1 {
					checkExchange(t, table, code, i, blind)
					checkTwins(t, table, code, i, twins)
				}
			}
		}
	}
}

func checkExchange(t *testing.T, table [][]int, code []int, i int, blind []serial.Spot) {
	t.Helper()
	a, b := code[i], code[i+1]
	if a == b {
		return
	}
	state, _ := serial.State(table, code[:i])
	right := serial.Right(table, with(with(code, i, b), i+1, a)) == api.OK
	if right != slices.Contains(blind, spot(state, min(a, b), max(a, b))) {
		t.Fatalf("%v: %v with %d and %d exchanged at %d is right: %v", table, code, a, b, i, right)
	}
}

func checkTwins(t *testing.T, table [][]int, code []int, i int, twins []serial.Spot) {
	t.Helper()
	a := code[i]
	if a != code[i+1] {
		return
	}
	state, _ := serial.State(table, code[:i])
	for b := range table {
		if b == a {
			continue
		}
		right := serial.Right(table, with(with(code, i, b), i+1, b)) == api.OK
		if right != slices.Contains(twins, spot(state, min(a, b), max(a, b))) {
			t.Fatalf("%v: %v with %d for %d at %d is right: %v", table, code, b, a, i, right)
		}
	}
}

// P1.11.
func TestLines(t *testing.T) {
	for base := 2; base <= serial.MaxBase; base++ {
		for step := 1; step < base; step++ {
			if divisor(base, step) > 1 {
				continue
			}
			table := line(t, base, step)
			if l, e := serial.Blind(table); e != api.OK || len(l) > 0 != (divisor(base, step-1) > 1) {
				t.Errorf("Blind of the line of %d and %d: %v %d", base, step, l, e)
			}
			if l, e := serial.Twins(table); e != api.OK || len(l) > 0 != (divisor(base, step+1) > 1) {
				t.Errorf("Twins of the line of %d and %d: %v %d", base, step, l, e)
			}
		}
	}
}

// P1.12.
func TestBack(t *testing.T) {
	for _, table := range tables(t) {
		for size := 2; size <= 3; size++ {
			var before []int
			for number := 0; ; number++ {
				code, e := serial.Code(table, size, number)
				if e == api.ErrBounds && number > 0 {
					break
				}
				if n, f := serial.Number(table, code); e != api.OK || f != api.OK || n != number {
					t.Fatalf("Number of Code of %v: %d: %v %d, %d %d", table, number, code, e, n, f)
				}
				if number > 0 && slices.Compare(before, code) >= 0 {
					t.Fatalf("codes of %v: %v is not before %v", table, before, code)
				}
				before = code
			}
			for _, code := range rightCodes(table, size) {
				checkBack(t, table, code)
			}
		}
	}
}

// checkBack checks that a right code is the code of its number, and ends with its check digit.
func checkBack(t *testing.T, table [][]int, code []int) {
	t.Helper()
	number, e := serial.Number(table, code)
	if c, f := serial.Code(table, len(code), number); e != api.OK || f != api.OK || !slices.Equal(c, code) {
		t.Fatalf("Code of Number of %v: %v: %d %d, %v %d", table, code, number, e, c, f)
	}
	digits := slices.Clone(code[:len(code)-1])
	d, e := serial.Digit(table, digits)
	if s, f := serial.State(table, append(digits, d)); e != api.OK || f != api.OK || s != 0 || d != code[len(code)-1] {
		t.Fatalf("State of Digit of %v: %v: %d %d, %d %d", table, code, d, e, s, f)
	}
}

// P1.12: codes of all sizes, the greatest ones too.
func TestBackLong(t *testing.T) {
	for _, table := range [][][]int{line(t, 2, 1), exampleT(), exampleU(), skewed(), line(t, 10, 3)} {
		limit := 1
		for size := 2; size <= serial.MaxDigits; size++ {
			limit *= len(table)
			for _, number := range list(0, 1, limit/3, limit/2, limit-2, limit-1) {
				code, e := serial.Code(table, size, number)
				if e != api.OK || len(code) != size || walk(table, code) != 0 {
					t.Fatalf("Code of %v: %d, %d: %v %d", table, size, number, code, e)
				}
				if n, f := serial.Number(table, code); f != api.OK || n != number {
					t.Fatalf("Number of %v: %v: %d %d, want %d", table, code, n, f, number)
				}
			}
			if c, e := serial.Code(table, size, limit); len(c) != 0 || e != api.ErrBounds {
				t.Fatalf("Code of %v: %d, %d: %v %d", table, size, limit, c, e)
			}
		}
	}
}

// renamings returns all renamings of the numbers of a base that keep 0.
func renamings(base int) [][]int {
	var all [][]int
	for _, l := range lists(base, base) {
		used := make([]bool, base)
		for _, n := range l {
			used[n] = true
		}
		if l[0] == 0 && !slices.Contains(used, false) {
			all = append(all, l)
		}
	}
	return all
}

func renamed(l, name []int) []int {
	var out []int
	for _, n := range l {
		out = append(out, name[n])
	}
	return out
}

func renamedTable(table [][]int, name []int) [][]int {
	out := copyOf(table)
	for s := range table {
		for d := range table {
			out[name[s]][name[d]] = name[table[s][d]]
		}
	}
	return out
}

// P1.13.
func TestRenamed(t *testing.T) {
	for _, table := range append(squares(3), exampleT(), exampleU(), skewed(), line(t, 5, 1), line(t, 5, 4)) {
		for _, name := range renamings(len(table)) {
			other := renamedTable(table, name)
			checkSpotsRenamed(t, table, other, name)
			for size := 2; size <= 3; size++ {
				for _, code := range lists(len(table), size) {
					checkRenamed(t, table, other, code, name)
				}
			}
		}
	}
}

func checkSpotsRenamed(t *testing.T, table, other [][]int, name []int) {
	t.Helper()
	for _, spots := range []func([][]int) ([]serial.Spot, api.Errno){serial.Blind, serial.Twins} {
		l, e := spots(table)
		m, f := spots(other)
		if e != api.OK || f != api.OK || len(l) != len(m) {
			t.Fatalf("spots of %v: %v %d, of %v: %v %d", table, l, e, other, m, f)
		}
		for _, s := range l {
			a, b := name[s.A], name[s.B]
			if !slices.Contains(m, spot(name[s.State], min(a, b), max(a, b))) {
				t.Fatalf("spots of %v: %v, of %v: %v", table, l, other, m)
			}
		}
	}
}

func checkRenamed(t *testing.T, table, other [][]int, code, name []int) {
	t.Helper()
	there := renamed(code, name)
	if e, f := serial.Right(table, code), serial.Right(other, there); e != f {
		t.Fatalf("Right of %v: %v: %d, of %v: %v: %d", table, code, e, other, there, f)
	}
	s, _ := serial.State(table, code)
	if u, f := serial.State(other, there); f != api.OK || u != name[s] {
		t.Fatalf("State of %v: %v: %d, of %v: %v: %d %d", table, code, s, other, there, u, f)
	}
	d, _ := serial.Digit(table, code)
	if u, f := serial.Digit(other, there); f != api.OK || u != name[d] {
		t.Fatalf("Digit of %v: %v: %d, of %v: %v: %d %d", table, code, d, other, there, u, f)
	}
	fixes, _ := serial.Fixes(table, code)
	for i := range fixes {
		fixes[i].Digit = name[fixes[i].Digit]
	}
	if l, _ := serial.Fixes(other, there); !slices.Equal(l, fixes) {
		t.Fatalf("Fixes of %v: %v: %v, want %v", other, there, l, fixes)
	}
	swaps, _ := serial.Swaps(table, code)
	if l, _ := serial.Swaps(other, there); !slices.Equal(l, swaps) {
		t.Fatalf("Swaps of %v: %v: %v, want %v", other, there, l, swaps)
	}
}
