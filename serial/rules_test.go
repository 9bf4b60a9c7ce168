package serial_test

import (
	"math"
	"slices"
	"testing"

	"tusche/api"
	"tusche/serial"
)

// answer is everything that the functions of tables return for the same arguments.
type answer struct {
	check   api.Errno
	state   int
	digit   int
	blind   []serial.Spot
	twins   []serial.Spot
	fixes   []serial.Fix
	swaps   []int
	restore int
	code    []int
	number  int
	errors  [10]api.Errno
}

func ask(table [][]int, digits []int, at, size, number int) answer {
	var a answer
	a.check = serial.Check(table)
	a.state, a.errors[0] = serial.State(table, digits)
	a.digit, a.errors[1] = serial.Digit(table, digits)
	a.errors[2] = serial.Right(table, digits)
	a.blind, a.errors[3] = serial.Blind(table)
	a.twins, a.errors[4] = serial.Twins(table)
	a.fixes, a.errors[5] = serial.Fixes(table, digits)
	a.swaps, a.errors[6] = serial.Swaps(table, digits)
	a.restore, a.errors[7] = serial.Restore(table, digits, at)
	a.code, a.errors[8] = serial.Code(table, size, number)
	a.number, a.errors[9] = serial.Number(table, digits)
	return a
}

func (a answer) equal(b answer) bool {
	return a.check == b.check && a.errors == b.errors && a.state == b.state && a.digit == b.digit &&
		a.restore == b.restore && a.number == b.number && slices.Equal(a.blind, b.blind) && slices.Equal(a.twins, b.twins) &&
		slices.Equal(a.fixes, b.fixes) && slices.Equal(a.swaps, b.swaps) && slices.Equal(a.code, b.code)
}

// strange returns digits of all kinds.
func strange() [][]int {
	return [][]int{nil, list(), list(0), list(-1), list(99), list(0, 0), list(1, 2, 2), list(1, 2, 3), list(math.MaxInt, math.MinInt), make([]int, 12), make([]int, 13), slices.Repeat(list(9), 13), make([]int, 5000)}
}

// P1, R1, R2: the error of Check comes first, and nothing comes with an error.
func TestErrorsOfTables(t *testing.T) {
	for i, x := range badTables() {
		for _, digits := range strange() {
			for _, n := range list(0, -1, 2, 13, math.MinInt, math.MaxInt) {
				want := answer{check: x.want}
				for k := range want.errors {
					want.errors[k] = x.want
				}
				if a := ask(x.table, digits, n, n, n); !a.equal(want) {
					t.Errorf("%d: %v, %d: %v, want %v", i, digits, n, a, want)
				}
			}
		}
	}
}

// P1, R2: whatever comes, each function ends, and nothing comes with an error.
func TestWhateverComes(t *testing.T) {
	for _, table := range [][][]int{exampleT(), exampleU(), skewed(), line(t, 2, 1), line(t, 10, 9)} {
		for _, digits := range strange() {
			for _, n := range list(0, 1, -1, 2, 12, 13, math.MinInt, math.MaxInt) {
				a := ask(table, digits, n, n, n)
				e := a.errors
				if e[0] != api.OK && a.state != 0 || e[1] != api.OK && a.digit != 0 || e[5] != api.OK && len(a.fixes) > 0 ||
					e[6] != api.OK && len(a.swaps) > 0 || e[7] != api.OK && a.restore != 0 || e[8] != api.OK && len(a.code) > 0 || e[9] != api.OK && a.number != 0 {
					t.Errorf("%v: %v, %d: %v", table, digits, n, a)
				}
			}
		}
	}
}

// R4, R8: arguments are not changed, also behind their ends, and equal arguments give equal results.
func TestArguments(t *testing.T) {
	for _, x := range []struct {
		table  [][]int
		digits []int
	}{{exampleT(), list(1, 2, 3, 4, 0, 9, 9)}, {exampleT(), list(1, 2, 2, 0, 0, 7, 8)}, {exampleU(), list(3, 2, 1, 1, 0, 6, 5)}, {skewed(), list(0, 1, 2, 3, 0, 4, 4)}} {
		table, kept := copyOf(x.table), slices.Clone(x.digits)
		for size := range 6 {
			for at := range size {
				a := ask(x.table, x.digits[:size], at, size, at)
				b := ask(copyOf(table), slices.Clone(kept[:size]), at, size, at)
				if !a.equal(b) {
					t.Errorf("%v: %v: %v and %v", table, kept[:size], a, b)
				}
			}
		}
		if !same(x.table, table) || !slices.Equal(x.digits, kept) {
			t.Errorf("%v: %v became %v: %v", table, kept, x.table, x.digits)
		}
	}
}

// R4: results are memory of their own.
func TestResultsAreNew(t *testing.T) {
	table := line(t, 5, 2)
	for s := range table {
		clear(table[s])
		table[s] = append(table[s], 9)
	}
	if !same(line(t, 5, 2), exampleT()) {
		t.Error("what is done to a table of Line changes the next one")
	}
	grown := line(t, 5, 2)
	for s := range grown {
		_ = append(grown[s], 9)
	}
	if !same(grown, exampleT()) {
		t.Error("what is added to a row of a table changes another row")
	}
	a := ask(exampleU(), list(1, 2, 0), 0, 3, 7)
	for _, l := range [][]serial.Spot{a.blind, a.twins} {
		clear(l)
	}
	clear(a.fixes)
	clear(a.swaps)
	clear(a.code)
	again := ask(exampleU(), list(1, 2, 0), 0, 3, 7)
	if a.equal(again) || again.blind[0] != spot(0, 0, 1) || !slices.Equal(again.code, list(1, 3, 0)) {
		t.Errorf("what is done to results changes the next ones: %v", again)
	}
}
