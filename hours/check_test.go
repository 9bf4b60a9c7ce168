package hours_test

import (
	"math"
	"slices"
	"testing"

	"tusche/api"
	"tusche/hours"
)

// badWork is a work with an error.
type badWork struct {
	work [][]int
	want api.Errno
}

// badWorks are works that are not valid, with their errors.
func badWorks() []badWork {
	all := []badWork{
		{nil, api.ErrEmpty},
		{[][]int{}, api.ErrEmpty},
		{even(7, 1, 0), api.ErrMany},
		{even(7, 6, 1), api.ErrMany},
		{make([][]int, 7), api.ErrMany}, // before the number of machines
		{even(7, 7, 31), api.ErrMany},
		{make([][]int, 5000), api.ErrMany},
		{[][]int{{}}, api.ErrSize},
		{[][]int{nil}, api.ErrSize},
		{[][]int{nil, nil}, api.ErrSize},
		{[][]int{{}, {1}}, api.ErrSize},
		{[][]int{{1}, nil}, api.ErrSize},
		{even(1, 7, 0), api.ErrSize},
		{even(6, 7, 1), api.ErrSize},
		{even(1, 5000, 31), api.ErrSize}, // before the hours
		{[][]int{{1, 1}, {1}}, api.ErrSize},
		{[][]int{{1, 1}, {1, 1, 1}}, api.ErrSize},
		{[][]int{{1}, {1}, {1}, {1}, {1}, {1, 1}}, api.ErrSize},
		{[][]int{{31, 1}, {1, 1}, {1}}, api.ErrSize}, // no artist's hours come before another one's number of machines
		{[][]int{{-1}, {1, 1}}, api.ErrSize},
		{[][]int{{1, 1}, {1, 1, 31}}, api.ErrSize},
	}
	for _, n := range list(-1, 31, math.MinInt, math.MaxInt) {
		all = append(all, badWork{grid(1, n), api.ErrBounds}, badWork{grid(2, 0, 30, 30, n), api.ErrBounds}, badWork{with(even(6, 6, 0), 5, 5, n), api.ErrBounds}, badWork{with(even(6, 6, 0), 0, 0, n), api.ErrBounds})
	}
	return all
}

// P7.1 to P7.6: all functions return the error of Check, before all others.
func TestBadWorks(t *testing.T) {
	for i, x := range badWorks() {
		for _, n := range list(2, 0, -1) {
			q := question{work: x.work, seats: n, reason: hours.Reason{Kind: n}, plan: steps(step(1, 0), step(n)), artist: n, machine: n, length: n}
			a := ask(q)
			for j, e := range a.errors {
				if e != x.want {
					t.Errorf("%d: function %d of %v: %d, want %d", i, j, x.work, e, x.want)
				}
			}
			a.checkNothing(t, q)
		}
	}
}

// P7.1: the smallest and the greatest works.
func TestCheck(t *testing.T) {
	for _, work := range append(works(), grid(1, 0), grid(1, 30), even(6, 1, 30), even(1, 6, 0)) {
		if e := hours.Check(work); e != api.OK {
			t.Fatalf("Check of %v: %d", work, e)
		}
	}
}

// P7.1.
func TestSums(t *testing.T) {
	for _, work := range works() {
		wantArtists, wantMachines, _ := sums(work)
		if a, m, e := hours.Sums(work); !slices.Equal(a, wantArtists) || !slices.Equal(m, wantMachines) || e != api.OK {
			t.Fatalf("Sums of %v: %v %v %d, want %v %v", work, a, m, e, wantArtists, wantMachines)
		}
	}
}

// P7.2 to P7.5: seats from 1 to 6, also where there are fewer artists or machines; all other functions that have seats return the error, before errors of their own.
func TestSeats(t *testing.T) {
	for _, work := range [][][]int{exampleW(), exampleV(), grid(1, 0), even(6, 6, 30), even(1, 6, 2)} {
		for _, seats := range list(1, 2, 3, 4, 5, 6) {
			if a := ask(question{work: work, seats: seats}); a.errors[2] != api.OK || a.errors[5] != api.OK {
				t.Errorf("%v with %d: %v", work, seats, a.errors)
			}
		}
		for _, seats := range list(0, -1, 7, math.MinInt, math.MaxInt) {
			q := question{work: work, seats: seats, reason: hours.Reason{Kind: 9}, plan: make([]hours.Step, 201), artist: -1, length: 1000}
			a := ask(q)
			for _, i := range list(2, 3, 4, 5, 6, 7, 8, 9) {
				if a.errors[i] != api.ErrBounds {
					t.Errorf("function %d of %v with %d: %d", i, work, seats, a.errors[i])
				}
			}
			a.checkNothing(t, q)
		}
	}
}
