package hours_test

import (
	"math"
	"testing"

	"tusche/api"
	"tusche/hours"
)

// P7.2: by a trial of all ways to use each hour.
func TestShortestOfSmall(t *testing.T) {
	all := trials{}
	for _, work := range smallWorks() {
		for seats := 1; seats <= hours.MaxSide; seats++ {
			if n, want := shortest(t, work, seats), all.of(work, seats).length; n != want {
				t.Fatalf("Shortest of %v with %d: %d, want %d", work, seats, n, want)
			}
		}
	}
}

// P7.2: all seats of a room are used, or all hours of one artist or one machine are one after the other.
func TestShortestEdges(t *testing.T) {
	for _, x := range []struct {
		work        [][]int
		seats, want int
	}{
		{grid(1, 0), 1, 0},
		{grid(1, 30), 1, 30},
		{grid(1, 30), 6, 30},
		{even(6, 6, 0), 6, 0},
		{even(6, 6, 30), 6, 180},
		{even(6, 6, 30), 5, 216},
		{even(6, 6, 30), 4, 270},
		{even(6, 6, 30), 1, 1080},
		{even(6, 1, 30), 6, 180},
		{even(1, 6, 30), 6, 180},
		{grid(3, 1, 0, 0, 0, 1, 0, 0, 0, 1), 3, 1},
		{grid(3, 1, 0, 0, 0, 1, 0, 0, 0, 1), 2, 2},
		{grid(2, 30, 30, 0, 30), 2, 60},
		{grid(3, 5, 0, 0, 0, 4, 0, 0, 0, 4), 2, 7}, // 13 hours, two at a time
		{grid(3, 7, 0, 0, 0, 3, 0, 0, 0, 3), 2, 7},
		{grid(3, 8, 0, 0, 0, 3, 0, 0, 0, 2), 2, 8},
	} {
		if n, e := hours.Shortest(x.work, x.seats); n != x.want || e != api.OK {
			t.Errorf("Shortest of %v with %d: %d %d, want %d", x.work, x.seats, n, e, x.want)
		}
	}
}

// P7.3: the first reason whose bound is the shortest length.
func TestWhy(t *testing.T) {
	seen := map[int]int{}
	for _, work := range works() {
		for seats := 1; seats <= hours.MaxSide; seats++ {
			length := shortest(t, work, seats)
			r, e := hours.Why(work, seats)
			for _, b := range bounds(work, seats) {
				if b.bound < length {
					continue
				}
				if r != b.reason || e != api.OK {
					t.Fatalf("Why of %v with %d: %v %d, want %v", work, seats, r, e, b.reason)
				}
				break
			}
			seen[r.Kind]++
		}
	}
	if seen[hours.Artist] < 100 || seen[hours.Machine] < 100 || seen[hours.Seats] < 100 {
		t.Errorf("%v", seen)
	}
}

// P7.3: of several reasons, artists come first, by their numbers, then machines, then Seats.
func TestWhyInOrder(t *testing.T) {
	for _, x := range []struct {
		work  [][]int
		seats int
		want  hours.Reason
	}{
		{exampleV(), 3, hours.Reason{Kind: hours.Artist}}, // all bounds are 3
		{even(6, 6, 0), 1, hours.Reason{Kind: hours.Artist}},
		{grid(1, 0), 1, hours.Reason{Kind: hours.Artist}},
		{grid(2, 1, 1, 2, 1), 2, hours.Reason{Kind: hours.Artist, Index: 1}}, // as well as the machine 0 and the seats
		{grid(2, 1, 2, 1, 2), 2, hours.Reason{Kind: hours.Machine, Index: 1}},
		{grid(2, 2, 2, 2, 2), 1, hours.Reason{Kind: hours.Seats}},
		{grid(3, 0, 2, 2, 1, 1, 1), 2, hours.Reason{Kind: hours.Artist, Index: 0}},
		{grid(3, 2, 0, 2, 2, 0, 2), 2, hours.Reason{Kind: hours.Artist, Index: 0}},
		{grid(3, 0, 2, 2, 0, 1, 1, 0, 1, 1), 2, hours.Reason{Kind: hours.Artist, Index: 0}},
		{grid(3, 0, 2, 2, 0, 2, 1, 0, 1, 2), 2, hours.Reason{Kind: hours.Machine, Index: 1}},
		{grid(1, 5, 6, 7), 2, hours.Reason{Kind: hours.Machine, Index: 0}},
		{grid(1, 5, 6, 7), 1, hours.Reason{Kind: hours.Machine, Index: 0}},
	} {
		if r, e := hours.Why(x.work, x.seats); r != x.want || e != api.OK {
			t.Errorf("Why of %v with %d: %v %d, want %v", x.work, x.seats, r, e, x.want)
		}
	}
}

// P7.3: the bound of each reason that a work has, and ErrNone for all others.
func TestBound(t *testing.T) {
	numbers := list(0, 1, 2, 3, 4, 5, 6, 7, -1, -2, math.MinInt, math.MaxInt)
	for _, work := range append(bigWorks(), everyWork(2, 2, 2)...) {
		for seats := 1; seats <= hours.MaxSide; seats++ {
			want := map[hours.Reason]int{}
			for _, b := range bounds(work, seats) {
				want[b.reason] = b.bound
			}
			for _, kind := range numbers {
				for _, index := range numbers {
					r := hours.Reason{Kind: kind, Index: index}
					wantError := api.ErrNone
					if _, is := want[r]; is {
						wantError = api.OK
					}
					if n, e := hours.Bound(work, seats, r); n != want[r] || e != wantError {
						t.Fatalf("Bound of %v with %d, %v: %d %d, want %d %d", work, seats, r, n, e, want[r], wantError)
					}
				}
			}
		}
	}
}
