package hours_test

import (
	"slices"
	"testing"

	"tusche/api"
	"tusche/hours"
)

// P7.7, M4: the greatest bound of all reasons; the plan and the reason prove each other.
func TestProofs(t *testing.T) {
	for _, work := range works() {
		for seats := 1; seats <= hours.MaxSide; seats++ {
			most := 0
			for _, b := range bounds(work, seats) {
				n, e := hours.Bound(work, seats, b.reason)
				if n != b.bound || e != api.OK {
					t.Fatalf("Bound of %v with %d, %v: %d %d, want %d", work, seats, b.reason, n, e, b.bound)
				}
				most = max(most, n)
			}
			r, e := hours.Why(work, seats)
			n, f := hours.Bound(work, seats, r)
			length, g := hours.Length(work, seats, planOf(t, work, seats))
			if e != api.OK || f != api.OK || g != api.OK || n != most || length != most || shortest(t, work, seats) != most {
				t.Fatalf("%v with %d: Why %v, bound %d, Length of Plan %d, Shortest %d, want %d", work, seats, r, n, length, shortest(t, work, seats), most)
			}
		}
	}
}

// without returns all artists, and all machines, who work in each step of a plan.
func without(plan []hours.Step, artists, machines int) (workArtists, workMachines []int) {
	every := func(works func(at []int) bool) bool {
		return !slices.ContainsFunc(plan, func(s hours.Step) bool { return !works(s.At) })
	}
	for artist := range artists {
		if every(func(at []int) bool { return at[artist] != hours.Idle }) {
			workArtists = append(workArtists, artist)
		}
	}
	for machine := range machines {
		if every(func(at []int) bool { return slices.Contains(at, machine) }) {
			workMachines = append(workMachines, machine)
		}
	}
	return workArtists, workMachines
}

// P7.8: those whose sum is the length work without a break, and nobody else.
func TestWithoutBreak(t *testing.T) {
	for _, work := range works() {
		artistSums, machineSums, total := sums(work)
		for seats := 1; seats <= hours.MaxSide; seats++ {
			length := shortest(t, work, seats)
			plan := planOf(t, work, seats)
			artists, machines := without(plan, len(work), len(work[0]))
			for artist, sum := range artistSums {
				if slices.Contains(artists, artist) != (sum == length) {
					t.Fatalf("Plan of %v with %d: %v: artist %d", work, seats, plan, artist)
				}
			}
			for machine, sum := range machineSums {
				if slices.Contains(machines, machine) != (sum == length) {
					t.Fatalf("Plan of %v with %d: %v: machine %d", work, seats, plan, machine)
				}
			}
			if a, m := busy(t, work, seats); !slices.Equal(a, artists) || !slices.Equal(m, machines) {
				t.Fatalf("Busy of %v with %d: %v %v, want %v %v", work, seats, a, m, artists, machines)
			}
			for _, s := range plan {
				if taken := len(slices.DeleteFunc(slices.Clone(s.At), func(n int) bool { return n == hours.Idle })); total == seats*length && taken != seats {
					t.Fatalf("Plan of %v with %d: %v: %d seats are taken", work, seats, plan, taken)
				}
			}
		}
	}
}

// P7.9, M1: with one hour more, the shortest length becomes greater by 1 at most; with fewer seats it does not become smaller.
func TestMoreWork(t *testing.T) {
	for _, work := range works() {
		for seats := 1; seats <= hours.MaxSide; seats++ {
			length := shortest(t, work, seats)
			if seats > 1 && shortest(t, work, seats-1) < length {
				t.Fatalf("Shortest of %v with %d: %d, with one seat less: %d", work, seats, length, shortest(t, work, seats-1))
			}
			for artist, row := range work {
				for machine, n := range row {
					if n == hours.MaxHours {
						continue
					}
					longer := shortest(t, with(work, artist, machine, 1), seats)
					if longer != length && longer != length+1 || (longer == length) != (room(t, work, seats, artist, machine) > 0) {
						t.Fatalf("Shortest of %v with %d: %d, with one hour more at %d and %d: %d", work, seats, length, artist, machine, longer)
					}
				}
			}
		}
	}
}

// P7.10: many seats do not matter; with one, the shortest length is the total.
func TestManySeats(t *testing.T) {
	for _, work := range works() {
		artists, machines, total := sums(work)
		for seats := min(len(work), len(work[0])); seats <= hours.MaxSide; seats++ {
			if n, want := shortest(t, work, seats), max(slices.Max(artists), slices.Max(machines)); n != want {
				t.Fatalf("Shortest of %v with %d: %d, want %d", work, seats, n, want)
			}
		}
		if n := shortest(t, work, 1); n != total {
			t.Fatalf("Shortest of %v with 1: %d, want %d", work, n, total)
		}
	}
}

// P7.11: half the work, and the work multiplied by the seats.
func TestHalves(t *testing.T) {
	greatest := func(work [][]int) int {
		most := 0
		for _, row := range work {
			most = max(most, slices.Max(row))
		}
		return most
	}
	for _, work := range works() {
		for seats := 1; seats <= hours.MaxSide; seats++ {
			length := shortest(t, work, seats)
			if 2*greatest(work) <= hours.MaxHours {
				if n := shortest(t, times(work, 2), seats); n > 2*length {
					t.Fatalf("Shortest of %v with %d: %d, of twice the work: %d", work, seats, length, n)
				}
			}
			if seats*greatest(work) <= hours.MaxHours {
				if n := shortest(t, times(work, seats), seats); n > seats*length {
					t.Fatalf("Shortest of %v with %d: %d, multiplied: %d", work, seats, length, n)
				}
			}
		}
	}
}

// mapped returns numbers by other names, in ascending order.
func mapped(l []int, name func(int) int) []int {
	var other []int
	for _, n := range l {
		other = append(other, name(n))
	}
	slices.Sort(other)
	return other
}

// checkSame checks that two works that are the same but for names get the same answers.
func checkSame(t *testing.T, work, other [][]int, artistName, machineName func(int) int) {
	t.Helper()
	for seats := 1; seats <= hours.MaxSide; seats++ {
		a, m := busy(t, work, seats)
		b, n := busy(t, other, seats)
		if shortest(t, work, seats) != shortest(t, other, seats) || !slices.Equal(mapped(a, artistName), b) || !slices.Equal(mapped(m, machineName), n) {
			t.Fatalf("%v with %d: Shortest %d, Busy %v %v; %v: %d, %v %v", work, seats, shortest(t, work, seats), a, m, other, shortest(t, other, seats), b, n)
		}
		for artist := range work {
			for machine := range work[0] {
				if r, s := room(t, work, seats, artist, machine), room(t, other, seats, artistName(artist), machineName(machine)); r != s {
					t.Fatalf("Room of %v with %d: %d and %d: %d, of %v: %d", work, seats, artist, machine, r, other, s)
				}
			}
		}
	}
	_, _, total := sums(work)
	for length := range total + 2 {
		n, e := hours.Enough(work, length)
		if m, f := hours.Enough(other, length); n != m || e != f {
			t.Fatalf("Enough of %v in %d: %d %d, of %v: %d %d", work, length, n, e, other, m, f)
		}
	}
}

// P7.12: artists and machines exchanged.
func TestExchanged(t *testing.T) {
	for _, work := range works() {
		other := exchanged(work)
		for seats := 1; seats <= hours.MaxSide; seats++ {
			a, m := busy(t, work, seats)
			b, n := busy(t, other, seats)
			if shortest(t, work, seats) != shortest(t, other, seats) || !slices.Equal(a, n) || !slices.Equal(m, b) {
				t.Fatalf("%v with %d: Shortest %d, Busy %v %v; exchanged: %d, %v %v", work, seats, shortest(t, work, seats), a, m, shortest(t, other, seats), b, n)
			}
			for artist := range work {
				for machine := range work[0] {
					if r, s := room(t, work, seats, artist, machine), room(t, other, seats, machine, artist); r != s {
						t.Fatalf("Room of %v with %d: %d and %d: %d, exchanged %d", work, seats, artist, machine, r, s)
					}
				}
			}
		}
	}
}

// P7.12, M5: artists, and machines, in another order.
func TestRenamed(t *testing.T) {
	for i, work := range works() {
		artists, machines := len(work), len(work[0])
		artistName := func(artist int) int { return (artists - artist + i) % artists }
		machineName := func(machine int) int { return (machine + 1 + i/5) % machines }
		other := even(artists, machines, 0)
		for artist, row := range work {
			for machine, n := range row {
				other[artistName(artist)][machineName(machine)] = n
			}
		}
		checkSame(t, work, other, artistName, machineName)
	}
}
