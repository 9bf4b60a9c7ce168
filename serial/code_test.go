package serial_test

import (
	"math"
	"slices"
	"testing"

	"tusche/api"
	"tusche/serial"
)

// badCodes are lists that are no codes of a table with base 5, with their errors.
func badCodes() []struct {
	code []int
	want api.Errno
} {
	return []struct {
		code []int
		want api.Errno
	}{
		{nil, api.ErrEmpty},
		{list(), api.ErrEmpty},
		{list(0), api.ErrEmpty},
		{list(7), api.ErrEmpty},
		{make([]int, 13), api.ErrMany},
		{make([]int, 1000), api.ErrMany},
		{slices.Repeat(list(5), 13), api.ErrMany},
		{list(5, 0), api.ErrBounds},
		{list(1, 2, 5), api.ErrBounds},
		{list(0, -1), api.ErrBounds},
		{list(math.MinInt, 0), api.ErrBounds},
		{list(0, math.MaxInt), api.ErrBounds},
	}
}

// P1.3.
func TestStateDigit(t *testing.T) {
	for _, table := range tables(t) {
		for size := range 4 {
			for _, digits := range lists(len(table), size) {
				if s, e := serial.State(table, digits); s != walk(table, digits) || e != api.OK {
					t.Fatalf("State of %v: %v: %d %d, want %d", table, digits, s, e, walk(table, digits))
				}
				d, e := serial.Digit(table, digits)
				if e != api.OK || d < 0 || d >= len(table) || walk(table, append(slices.Clone(digits), d)) != 0 {
					t.Fatalf("Digit of %v: %v: %d %d", table, digits, d, e)
				}
			}
		}
	}
}

// P1.3: empty and full lists, and invalid ones.
func TestStateDigitEdges(t *testing.T) {
	for i, x := range []struct {
		table        [][]int
		digits       []int
		state, digit int
		want         api.Errno
	}{
		{exampleT(), nil, 0, 0, api.OK},
		{exampleT(), list(), 0, 0, api.OK},
		{exampleT(), list(4), 4, 2, api.OK},
		{exampleT(), make([]int, 12), 0, 0, api.OK},
		{skewed(), nil, 0, 1, api.OK},
		{line(t, 10, 3), list(1, 2, 3, 4, 5, 6, 7, 8, 9, 0, 1, 2), 4, 8, api.OK},
		{exampleT(), make([]int, 13), 0, 0, api.ErrMany},
		{exampleT(), slices.Repeat(list(9), 13), 0, 0, api.ErrMany},
		{exampleT(), list(5), 0, 0, api.ErrBounds},
		{exampleT(), list(-1), 0, 0, api.ErrBounds},
		{exampleT(), list(1, math.MaxInt), 0, 0, api.ErrBounds},
		{exampleT(), list(math.MinInt, 1), 0, 0, api.ErrBounds},
		{exampleU(), list(4), 0, 0, api.ErrBounds},
	} {
		if s, e := serial.State(x.table, x.digits); s != x.state || e != x.want {
			t.Errorf("%d: State: %d %d, want %d %d", i, s, e, x.state, x.want)
		}
		if d, e := serial.Digit(x.table, x.digits); d != x.digit || e != x.want {
			t.Errorf("%d: Digit: %d %d, want %d %d", i, d, e, x.digit, x.want)
		}
	}
}

// P1.4.
func TestRight(t *testing.T) {
	for _, table := range tables(t) {
		for size := 2; size <= 3; size++ {
			for _, code := range lists(len(table), size) {
				want := api.OK
				if walk(table, code) != 0 {
					want = api.ErrProof
				}
				if e := serial.Right(table, code); e != want {
					t.Fatalf("Right of %v: %v: %d, want %d", table, code, e, want)
				}
			}
		}
	}
	for i, x := range badCodes() {
		if e := serial.Right(exampleT(), x.code); e != x.want {
			t.Errorf("%d: Right: %d, want %d", i, e, x.want)
		}
	}
	if e := serial.Right(exampleT(), make([]int, 12)); e != api.OK {
		t.Errorf("Right of 12 digits: %d", e)
	}
	if e := serial.Right(exampleT(), with(make([]int, 12), 11, 1)); e != api.ErrProof {
		t.Errorf("Right of 12 digits that are wrong: %d", e)
	}
}

// P1.6.
func TestFixesSwaps(t *testing.T) {
	for _, table := range tables(t) {
		for size := 2; size <= 3; size++ {
			for _, code := range lists(len(table), size) {
				checkFixes(t, table, code)
				checkSwaps(t, table, code)
			}
		}
	}
	for i, x := range badCodes() {
		if l, e := serial.Fixes(exampleT(), x.code); len(l) != 0 || e != x.want {
			t.Errorf("%d: Fixes: %v %d, want %d", i, l, e, x.want)
		}
		if l, e := serial.Swaps(exampleT(), x.code); len(l) != 0 || e != x.want {
			t.Errorf("%d: Swaps: %v %d, want %d", i, l, e, x.want)
		}
	}
}

// wrongError returns ErrSame for a right code, otherwise OK.
func wrongError(table [][]int, code []int) api.Errno {
	if walk(table, code) == 0 {
		return api.ErrSame
	}
	return api.OK
}

func checkFixes(t *testing.T, table [][]int, code []int) {
	t.Helper()
	want := wrongError(table, code)
	var fixes []serial.Fix
	for at := range code {
		for d := range table {
			if want == api.OK && walk(table, with(code, at, d)) == 0 {
				fixes = append(fixes, serial.Fix{At: at, Digit: d})
			}
		}
	}
	if l, e := serial.Fixes(table, code); !slices.Equal(l, fixes) || e != want {
		t.Fatalf("Fixes of %v: %v: %v %d, want %v %d", table, code, l, e, fixes, want)
	}
}

func checkSwaps(t *testing.T, table [][]int, code []int) {
	t.Helper()
	want := wrongError(table, code)
	var swaps []int
	for i := range len(code) - 1 {
		if want == api.OK && walk(table, with(with(code, i, code[i+1]), i+1, code[i])) == 0 {
			swaps = append(swaps, i)
		}
	}
	if l, e := serial.Swaps(table, code); !slices.Equal(l, swaps) || e != want {
		t.Fatalf("Swaps of %v: %v: %v %d, want %v %d", table, code, l, e, swaps, want)
	}
}

// P1.6: a code with several swaps, and codes of 12 digits.
func TestFixesSwapsLong(t *testing.T) {
	code := list(4, 2, 2, 4)
	if l, e := serial.Swaps(exampleT(), code); !slices.Equal(l, list(0, 2)) || e != api.OK {
		t.Errorf("Swaps: %v %d", l, e)
	}
	for _, table := range [][][]int{exampleT(), line(t, 10, 3), skewed()} {
		long := slices.Repeat(list(1, 2, 3, 0), 3)
		checkFixes(t, table, long)
		checkSwaps(t, table, long)
	}
}

// P1.7.
func TestRestore(t *testing.T) {
	for _, table := range tables(t) {
		for size := 2; size <= 3; size++ {
			for _, code := range lists(len(table), size) {
				for at := range code {
					d, e := serial.Restore(table, code, at)
					if e != api.OK || d < 0 || d >= len(table) || walk(table, with(code, at, d)) != 0 {
						t.Fatalf("Restore of %v: %v at %d: %d %d", table, code, at, d, e)
					}
					if walk(table, code) == 0 && d != code[at] {
						t.Fatalf("Restore of %v: %v at %d: %d stood there", table, code, at, d)
					}
				}
			}
		}
	}
	for i, x := range badCodes() {
		for _, at := range []int{0, -1, 13} {
			if d, e := serial.Restore(exampleT(), x.code, at); d != 0 || e != x.want {
				t.Errorf("%d: Restore at %d: %d %d, want %d", i, at, d, e, x.want)
			}
		}
	}
	for _, code := range [][]int{list(1, 2, 2), list(1, 2, 3)} {
		for _, at := range []int{-1, 3, math.MinInt, math.MaxInt} {
			if d, e := serial.Restore(exampleT(), code, at); d != 0 || e != api.ErrNone {
				t.Errorf("Restore at %d: %d %d", at, d, e)
			}
		}
	}
}

// P1.8.
func TestCode(t *testing.T) {
	for i, x := range []struct {
		table        [][]int
		size, number int
		code         []int
		want         api.Errno
	}{
		{exampleT(), 2, 0, list(0, 0), api.OK},
		{exampleT(), 2, 4, list(4, 2), api.OK},
		{exampleT(), 2, 5, nil, api.ErrBounds},
		{exampleT(), 3, 24, list(4, 4, 1), api.OK},
		{exampleT(), 3, 25, nil, api.ErrBounds},
		{exampleT(), 3, -1, nil, api.ErrBounds},
		{exampleT(), 3, math.MaxInt, nil, api.ErrBounds},
		{exampleT(), 12, math.MinInt, nil, api.ErrBounds},
		{exampleT(), 1, 0, nil, api.ErrSize},
		{exampleT(), 0, -1, nil, api.ErrSize},
		{exampleT(), 13, 0, nil, api.ErrSize},
		{exampleT(), math.MaxInt, 0, nil, api.ErrSize},
		{exampleT(), math.MinInt, 0, nil, api.ErrSize},
		{line(t, 2, 1), 12, 2047, slices.Repeat(list(1), 12), api.OK},
		{line(t, 2, 1), 12, 2048, nil, api.ErrBounds},
		{line(t, 10, 1), 12, 99999999999, append(slices.Repeat(list(9), 11), 1), api.OK},
		{line(t, 10, 1), 12, 100000000000, nil, api.ErrBounds},
		{line(t, 10, 1), 12, 12345678901, list(1, 2, 3, 4, 5, 6, 7, 8, 9, 0, 1, 4), api.OK},
	} {
		if c, e := serial.Code(x.table, x.size, x.number); !slices.Equal(c, x.code) || e != x.want {
			t.Errorf("%d: Code: %v %d, want %v %d", i, c, e, x.code, x.want)
		}
		if x.want != api.OK {
			continue
		}
		if n, e := serial.Number(x.table, x.code); n != x.number || e != api.OK {
			t.Errorf("%d: Number: %d %d, want %d", i, n, e, x.number)
		}
	}
}

// P1.8: all codes of some tables, with one number for each of them.
func TestCodeAll(t *testing.T) {
	for _, table := range tables(t) {
		for size := 2; size <= 3; size++ {
			codes := rightCodes(table, size)
			for number, code := range codes {
				if c, e := serial.Code(table, size, number); !slices.Equal(c, code) || e != api.OK {
					t.Fatalf("Code of %v: %d, %d: %v %d, want %v", table, size, number, c, e, code)
				}
				if n, e := serial.Number(table, code); n != number || e != api.OK {
					t.Fatalf("Number of %v: %v: %d %d, want %d", table, code, n, e, number)
				}
			}
			if c, e := serial.Code(table, size, len(codes)); len(c) != 0 || e != api.ErrBounds {
				t.Fatalf("Code of %v: %d, %d: %v %d", table, size, len(codes), c, e)
			}
		}
	}
}

// P1.8.
func TestNumberErrors(t *testing.T) {
	for i, x := range badCodes() {
		if n, e := serial.Number(exampleT(), x.code); n != 0 || e != x.want {
			t.Errorf("%d: Number: %d %d, want %d", i, n, e, x.want)
		}
	}
	if n, e := serial.Number(exampleT(), list(1, 2, 3)); n != 0 || e != api.ErrProof {
		t.Errorf("Number of a wrong code: %d %d", n, e)
	}
}
