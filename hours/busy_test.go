package hours_test

import (
	"math"
	"slices"
	"testing"

	"tusche/api"
	"tusche/hours"
)

// working returns the numbers of artists, and of machines, for whom there is no bit.
func working(breaks, artists, machines int) (wantArtists, wantMachines []int) {
	for i := range artists {
		if breaks>>i&1 == 0 {
			wantArtists = append(wantArtists, i)
		}
	}
	for i := range machines {
		if breaks>>(artists+i)&1 == 0 {
			wantMachines = append(wantMachines, i)
		}
	}
	return wantArtists, wantMachines
}

// P7.5, M1, M3: who has no break in any of the shortest plans.
func TestBusyOfSmall(t *testing.T) {
	all := trials{}
	for _, work := range smallWorks() {
		for seats := 1; seats <= hours.MaxSide; seats++ {
			wantArtists, wantMachines := working(all.of(work, seats).breaks, len(work), len(work[0]))
			if a, m := busy(t, work, seats); !slices.Equal(a, wantArtists) || !slices.Equal(m, wantMachines) {
				t.Fatalf("Busy of %v with %d: %v %v, want %v %v", work, seats, a, m, wantArtists, wantMachines)
			}
		}
	}
}

// P7.5: without hours, all of them; several artists and machines, in ascending order.
func TestBusyEdges(t *testing.T) {
	for _, x := range []struct {
		work              [][]int
		seats             int
		artists, machines []int
	}{
		{grid(1, 0), 1, list(0), list(0)},
		{even(6, 6, 0), 1, list(0, 1, 2, 3, 4, 5), list(0, 1, 2, 3, 4, 5)},
		{even(2, 3, 0), 6, list(0, 1), list(0, 1, 2)},
		{even(6, 6, 30), 6, list(0, 1, 2, 3, 4, 5), list(0, 1, 2, 3, 4, 5)},
		{even(6, 6, 30), 5, nil, nil},
		{even(6, 3, 30), 6, nil, list(0, 1, 2)},
		{even(2, 5, 7), 6, list(0, 1), nil},
		{grid(1, 30), 1, list(0), list(0)},
		{grid(3, 0, 5, 0, 4, 0, 0, 0, 0, 5), 3, list(0, 2), list(1, 2)},
		{grid(2, 1, 2, 3, 0), 2, nil, list(0)},
		{grid(2, 1, 2, 3, 0), 1, nil, nil},
		{grid(3, 2, 2, 2), 1, list(0), nil}, // one artist alone
	} {
		if a, m := busy(t, x.work, x.seats); !slices.Equal(a, x.artists) || !slices.Equal(m, x.machines) {
			t.Errorf("Busy of %v with %d: %v %v, want %v %v", x.work, x.seats, a, m, x.artists, x.machines)
		}
	}
}

// P7.5: by the trial, with one hour more again and again.
func TestRoomOfSmall(t *testing.T) {
	all := trials{}
	for _, size := range [][3]int{{1, 1, 4}, {1, 3, 2}, {3, 1, 2}, {2, 2, 2}, {2, 3, 1}, {3, 2, 1}} {
		for _, work := range everyWork(size[0], size[1], size[2]) {
			for seats := 1; seats <= 3; seats++ {
				for artist := range work {
					for machine := range work[0] {
						want := 0
						for all.of(with(work, artist, machine, want+1), seats).length == all.of(work, seats).length {
							want++
						}
						if n := room(t, work, seats, artist, machine); n != want {
							t.Fatalf("Room of %v with %d: %d and %d: %d, want %d", work, seats, artist, machine, n, want)
						}
					}
				}
			}
		}
	}
}

// longest returns the greatest bound of a work, which may have more hours than a work can have.
func longest(work [][]int, seats int) int {
	most := 0
	for _, b := range bounds(work, seats) {
		most = max(most, b.bound)
	}
	return most
}

// P7.5: the shortest length remains with this room, and not with more; it goes beyond MaxHours, too.
func TestRoom(t *testing.T) {
	beyond := 0
	for _, work := range bigWorks() {
		for seats := 1; seats <= hours.MaxSide; seats++ {
			for artist := range work {
				for machine := range work[0] {
					n := room(t, work, seats, artist, machine)
					if n < 0 || longest(with(work, artist, machine, n), seats) != shortest(t, work, seats) || longest(with(work, artist, machine, n+1), seats) != shortest(t, work, seats)+1 {
						t.Fatalf("Room of %v with %d: %d and %d: %d", work, seats, artist, machine, n)
					}
					if work[artist][machine]+n > hours.MaxHours {
						beyond++
					}
				}
			}
		}
	}
	if beyond < 100 {
		t.Errorf("%d", beyond)
	}
}

// P7.5: what limits the room: the artist, the machine or the seats.
func TestRoomEdges(t *testing.T) {
	full := with(even(6, 6, 0), 0, 0, 30)
	for machine := 1; machine < 6; machine++ {
		full = with(full, 0, machine, 30)
	}
	for _, x := range []struct {
		work                         [][]int
		seats, artist, machine, want int
	}{
		{full, 6, 1, 0, 150},
		{full, 2, 1, 0, 150},
		{full, 1, 1, 0, 0},
		{full, 6, 0, 0, 0},
		{grid(2, 9, 0, 0, 2), 2, 1, 1, 7},
		{grid(2, 9, 0, 0, 2), 2, 1, 0, 0},
		{grid(2, 9, 0, 0, 2), 1, 1, 1, 0},
		{grid(3, 3, 0, 0, 0, 3, 0, 0, 0, 1), 2, 2, 2, 1}, // 7 hours, two at a time: 8 do not need more
		{grid(3, 3, 0, 0, 0, 3, 0, 0, 0, 1), 3, 2, 2, 2},
		{grid(1, 0), 6, 0, 0, 0},
		{even(6, 6, 0), 6, 5, 5, 0},
	} {
		if n := room(t, x.work, x.seats, x.artist, x.machine); n != x.want {
			t.Errorf("Room of %v with %d: %d and %d: %d, want %d", x.work, x.seats, x.artist, x.machine, n, x.want)
		}
	}
}

// P7.5: artists and machines that a work does not have.
func TestRoomOfNone(t *testing.T) {
	for _, work := range [][][]int{even(2, 5, 1), even(6, 1, 0), even(6, 6, 3)} {
		for _, artist := range list(0, 1, 2, 5, 6, -1, math.MinInt, math.MaxInt) {
			for _, machine := range list(0, 1, 2, 4, 5, 6, -1, math.MinInt, math.MaxInt) {
				want := api.OK
				if artist < 0 || artist >= len(work) || machine < 0 || machine >= len(work[0]) {
					want = api.ErrNone
				}
				if n, e := hours.Room(work, 2, artist, machine); e != want || e != api.OK && n != 0 {
					t.Errorf("Room of %v: %d and %d: %d %d, want %d", work, artist, machine, n, e, want)
				}
			}
		}
	}
}

// P7.6: by the trial, with any seats.
func TestEnoughOfSmall(t *testing.T) {
	all := trials{}
	for _, work := range smallWorks() {
		artists, machines, total := sums(work)
		for length := range total + 3 {
			want, wantError := 0, api.OK
			for total > 0 && want < 6 && (want == 0 || all.of(work, want).length > length) {
				want++
			}
			if length < max(slices.Max(artists), slices.Max(machines)) {
				want, wantError = 0, api.ErrLost
			}
			if n, e := hours.Enough(work, length); n != want || e != wantError {
				t.Fatalf("Enough of %v in %d: %d %d, want %d %d", work, length, n, e, want, wantError)
			}
		}
	}
}

// P7.6: with these seats there is a plan, and with fewer there is none.
func TestEnough(t *testing.T) {
	for _, work := range bigWorks() {
		artists, machines, total := sums(work)
		least := max(slices.Max(artists), slices.Max(machines))
		for _, length := range list(least, least+1, least+7, (least+total)/2, total, total+1, 1<<40, math.MaxInt-1, math.MaxInt) {
			if length < least {
				continue
			}
			n := enough(t, work, length)
			if total == 0 && n != 0 || total > 0 && (n < 1 || shortest(t, work, n) > length || n > 1 && shortest(t, work, n-1) <= length) {
				t.Fatalf("Enough of %v in %d: %d", work, length, n)
			}
		}
	}
}

// P7.6: lengths that are too small.
func TestEnoughErrors(t *testing.T) {
	for _, x := range []struct {
		work         [][]int
		length, want int
		e            api.Errno
	}{
		{exampleV(), -1, 0, api.ErrBounds},
		{exampleV(), math.MinInt, 0, api.ErrBounds},
		{grid(1, 0), -1, 0, api.ErrBounds},
		{grid(1, 0), 0, 0, api.OK},
		{grid(1, 0), math.MaxInt, 0, api.OK},
		{exampleV(), 0, 0, api.ErrLost},
		{exampleV(), 2, 0, api.ErrLost},
		{grid(2, 3, 2), 4, 0, api.ErrLost}, // the artist
		{grid(2, 3, 2), 5, 1, api.OK},
		{grid(1, 3, 2), 4, 0, api.ErrLost}, // the machine
		{grid(1, 3, 2), 5, 1, api.OK},
		{exampleV(), 4, 3, api.OK},
		{exampleV(), 8, 2, api.OK},
		{exampleV(), 9, 1, api.OK},
		{exampleV(), math.MaxInt, 1, api.OK},
		{even(6, 6, 30), 180, 6, api.OK},
		{even(6, 6, 30), 179, 0, api.ErrLost},
		{even(6, 6, 30), 1079, 2, api.OK},
		{even(6, 6, 30), 1080, 1, api.OK},
	} {
		if n, e := hours.Enough(x.work, x.length); n != x.want || e != x.e {
			t.Errorf("Enough of %v in %d: %d %d, want %d %d", x.work, x.length, n, e, x.want, x.e)
		}
	}
}
