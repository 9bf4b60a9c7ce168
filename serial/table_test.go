package serial_test

import (
	"math"
	"slices"
	"testing"

	"tusche/api"
	"tusche/serial"
)

// badTables are lists that are no tables, with their errors.
func badTables() []struct {
	table [][]int
	want  api.Errno
} {
	return []struct {
		table [][]int
		want  api.Errno
	}{
		{nil, api.ErrSize},
		{rows(), api.ErrSize},
		{rows(list(0)), api.ErrSize},
		{make([][]int, 2), api.ErrSize},
		{make([][]int, 10), api.ErrSize},
		{make([][]int, 11), api.ErrSize},
		{make([][]int, 1000), api.ErrSize},
		{rows(list(0, 1), list(1)), api.ErrSize},
		{rows(list(0, 1), list(1, 0, 0)), api.ErrSize},
		{rows(list(0, 1, 2), list(1, 2, 0)), api.ErrSize},
		{rows(list(0, 1), list(1, 2)), api.ErrBounds},
		{rows(list(0, -1), list(1, 0)), api.ErrBounds},
		{rows(list(math.MinInt, 1), list(1, 0)), api.ErrBounds},
		{rows(list(0, 1), list(1, math.MaxInt)), api.ErrBounds},
		{rows(list(0, 1), list(0, 1)), api.ErrAgain},
		{rows(list(0, 0), list(1, 1)), api.ErrAgain},
		{rows(list(0, 1, 2), list(1, 2, 0), list(2, 0, 0)), api.ErrAgain},
		{rows(list(0, 1, 2), list(1, 2, 0), list(1, 0, 2)), api.ErrAgain},
		{rows(list(0, 1, 2), list(1, 0, 2), list(2, 1, 0)), api.ErrAgain},
		{rows(list(0, 1), list(1, 0), nil), api.ErrSize},
		// of several errors the first one counts
		{rows(list(9, 9), list(1)), api.ErrSize},
		{rows(list(0, 0), list(1, 2)), api.ErrBounds},
		{rows(list(0, 0), list(0, 2)), api.ErrBounds},
	}
}

// P1.2.
func TestCheck(t *testing.T) {
	for i, x := range badTables() {
		if e := serial.Check(x.table); e != x.want {
			t.Errorf("%d: Check of %v: %d, want %d", i, x.table, e, x.want)
		}
	}
	for _, table := range tables(t) {
		if e := serial.Check(table); e != api.OK {
			t.Fatalf("Check of %v: %d", table, e)
		}
	}
}

// P1.2: each square of three rows, against the definition.
func TestCheckAll(t *testing.T) {
	right := 0
	for _, l := range lists(3, 9) {
		table := rows(l[:3], l[3:6], l[6:])
		want := api.OK
		for i := range 3 {
			for n := range 3 {
				column := list(l[i], l[3+i], l[6+i])
				if !slices.Contains(table[i], n) || !slices.Contains(column, n) {
					want = api.ErrAgain
				}
			}
		}
		if e := serial.Check(table); e != want {
			t.Fatalf("Check of %v: %d, want %d", table, e, want)
		}
		if want == api.OK {
			right++
		}
	}
	if right != 12 {
		t.Errorf("%d tables of three rows, want 12", right)
	}
}

// P1.2.
func TestLine(t *testing.T) {
	for base := -3; base <= 15; base++ {
		for step := -3; step <= 15; step++ {
			want := api.OK
			switch {
			case base < 2 || base > 10 || step < 1 || step > base-1:
				want = api.ErrBounds
			case divisor(base, step) > 1:
				want = api.ErrClash
			}
			table, e := serial.Line(base, step)
			if e != want || e != api.OK && len(table) != 0 {
				t.Fatalf("Line of %d and %d: %v %d, want %d", base, step, table, e, want)
			}
			if e == api.OK {
				checkLine(t, table, base, step)
			}
		}
	}
	for _, far := range []int{math.MinInt, math.MaxInt} {
		for _, x := range [][2]int{{far, 1}, {10, far}, {far, far}, {far, -1}} {
			if table, e := serial.Line(x[0], x[1]); e != api.ErrBounds || len(table) != 0 {
				t.Errorf("Line of %v: %v %d", x, table, e)
			}
		}
	}
}

func checkLine(t *testing.T, table [][]int, base, step int) {
	t.Helper()
	if len(table) != base || serial.Check(table) != api.OK {
		t.Fatalf("Line of %d and %d is no table: %v", base, step, table)
	}
	for s := range base {
		for d := range base {
			if table[s][d] != (step*s+d)%base {
				t.Errorf("Line of %d and %d: %d in the row %d and the column %d", base, step, table[s][d], s, d)
			}
		}
	}
}

// P1.5.
func TestBlindTwins(t *testing.T) {
	for _, table := range tables(t) {
		var blind, twins []serial.Spot
		for s := range table {
			for a := range table {
				for b := a + 1; b < len(table); b++ {
					if table[table[s][a]][b] == table[table[s][b]][a] {
						blind = append(blind, spot(s, a, b))
					}
					if table[table[s][a]][a] == table[table[s][b]][b] {
						twins = append(twins, spot(s, a, b))
					}
				}
			}
		}
		if l, e := serial.Blind(table); !slices.Equal(l, blind) || e != api.OK {
			t.Fatalf("Blind of %v: %v %d, want %v", table, l, e, blind)
		}
		if l, e := serial.Twins(table); !slices.Equal(l, twins) || e != api.OK {
			t.Fatalf("Twins of %v: %v %d, want %v", table, l, e, twins)
		}
	}
	for i, x := range badTables() {
		if l, e := serial.Blind(x.table); len(l) != 0 || e != x.want {
			t.Errorf("%d: Blind: %v %d, want %d", i, l, e, x.want)
		}
		if l, e := serial.Twins(x.table); len(l) != 0 || e != x.want {
			t.Errorf("%d: Twins: %v %d, want %d", i, l, e, x.want)
		}
	}
}

// P1.5: spots in ascending order, written out.
func TestSpotsWrittenOut(t *testing.T) {
	want := []serial.Spot{spot(0, 0, 2), spot(0, 1, 3), spot(1, 0, 2), spot(1, 1, 3), spot(2, 0, 2), spot(2, 1, 3), spot(3, 0, 2), spot(3, 1, 3)}
	if l, e := serial.Blind(skewed()); !slices.Equal(l, want) || e != api.OK {
		t.Errorf("Blind: %v %d", l, e)
	}
	if l, e := serial.Twins(exampleU()); !slices.Equal(l, want) || e != api.OK {
		t.Errorf("Twins: %v %d", l, e)
	}
	all := []serial.Spot{spot(0, 0, 1), spot(0, 0, 2), spot(0, 1, 2), spot(1, 0, 1), spot(1, 0, 2), spot(1, 1, 2), spot(2, 0, 1), spot(2, 0, 2), spot(2, 1, 2)}
	if l, e := serial.Blind(line(t, 3, 1)); !slices.Equal(l, all) || e != api.OK {
		t.Errorf("Blind: %v %d", l, e)
	}
}
