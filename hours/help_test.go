package hours_test

import (
	"slices"
	"testing"

	"tusche/api"
	"tusche/hours"
)

func list(l ...int) []int { return l }

// grid returns a work with the hours of all artists, one after the other.
func grid(machines int, l ...int) [][]int {
	var work [][]int
	for row := range slices.Chunk(l, machines) {
		work = append(work, slices.Clone(row))
	}
	return work
}

// even returns a work with the same hours everywhere.
func even(artists, machines, n int) [][]int {
	return grid(machines, slices.Repeat(list(n), artists*machines)...)
}

// exampleW and exampleV are W and V of the chapter's examples.
func exampleW() [][]int { return grid(2, 2, 1, 0, 3) }
func exampleV() [][]int { return even(3, 3, 1) }

// step returns a step.
func step(n int, at ...int) hours.Step { return hours.Step{Hours: n, At: at} }

func steps(l ...hours.Step) []hours.Step { return l }

// examplePlan is the plan of W in the chapter's table.
func examplePlan() []hours.Step {
	return steps(step(1, 1, hours.Idle), step(2, 0, 1), step(1, hours.Idle, 1))
}

// copyOf returns a work with memory of its own.
func copyOf(work [][]int) [][]int {
	var other [][]int
	for _, row := range work {
		other = append(other, slices.Clone(row))
	}
	return other
}

// with returns a work with more hours of one artist at one machine.
func with(work [][]int, artist, machine, more int) [][]int {
	other := copyOf(work)
	other[artist][machine] += more
	return other
}

// times returns a work with all hours multiplied.
func times(work [][]int, n int) [][]int {
	other := copyOf(work)
	for _, row := range other {
		for i := range row {
			row[i] *= n
		}
	}
	return other
}

// exchanged returns a work with artists and machines exchanged.
func exchanged(work [][]int) [][]int {
	other := make([][]int, len(work[0]))
	for _, row := range work {
		for machine, n := range row {
			other[machine] = append(other[machine], n)
		}
	}
	return other
}

// chance returns a function whose numbers follow from one number, and from no rule otherwise.
func chance(number int) func(limit int) int {
	state := uint32(number)
	return func(limit int) int {
		state = state*1664525 + 1013904223
		return int(state>>16) % limit
	}
}

// mixed returns a work with any hours up to a limit; of so many pairs in a hundred, none.
func mixed(artists, machines, most, none, number int) [][]int {
	next := chance(number)
	work := even(artists, machines, 0)
	for _, row := range work {
		for i := range row {
			if next(100) >= none {
				row[i] = next(most + 1)
			}
		}
	}
	return work
}

// everyWork returns all works of a size with hours up to a limit.
func everyWork(artists, machines, most int) [][][]int {
	all := [][][]int{even(artists, machines, 0)}
	for artist := range artists {
		for machine := range machines {
			for _, work := range all {
				for n := range most {
					all = append(all, with(work, artist, machine, n+1))
				}
			}
		}
	}
	return all
}

// smallWorks returns all works of some small sizes, and some of 3 by 3.
func smallWorks() [][][]int {
	var all [][][]int
	for _, x := range [][3]int{{1, 1, 5}, {1, 2, 3}, {2, 1, 3}, {1, 4, 2}, {4, 1, 2}, {2, 2, 3}, {2, 3, 2}, {3, 2, 2}, {3, 3, 1}} {
		all = append(all, everyWork(x[0], x[1], x[2])...)
	}
	for number := range 150 {
		all = append(all, mixed(3, 3, 2, 20, number))
	}
	return all
}

// bigWorks returns works of all sizes, up to the greatest one.
func bigWorks() [][][]int {
	all := [][][]int{exampleW(), exampleV(), grid(2, 30, 30, 30, 0), grid(3, 0, 0, 0, 0, 30, 0), grid(6, 1, 2, 3, 4, 5, 6), even(6, 6, 30), even(6, 6, 1)}
	for artists := 1; artists <= hours.MaxSide; artists++ {
		for machines := 1; machines <= hours.MaxSide; machines++ {
			number := 10*artists + machines
			all = append(all, even(artists, machines, 0), even(artists, machines, 30), mixed(artists, machines, 30, 0, number), mixed(artists, machines, 30, 50, 3*number),
				mixed(artists, machines, 30, 80, 5*number), mixed(artists, machines, 2, 30, 7*number), mixed(artists, machines, 15, 20, 11*number), loaded(artists, machines, 13*number))
		}
	}
	return all
}

// loaded returns a work in which one artist or one machine has far more hours than the others.
func loaded(artists, machines, number int) [][]int {
	next := chance(number)
	work := mixed(artists, machines, 3, 30, number)
	if artist := next(artists); number%2 == 0 {
		for machine := range machines {
			work[artist][machine] = 20 + next(11)
		}
		return work
	}
	machine := next(machines)
	for artist := range artists {
		work[artist][machine] = 20 + next(11)
	}
	return work
}

// works returns works of all sizes.
func works() [][][]int {
	return slices.Concat(smallWorks(), bigWorks())
}

// sums returns all sums of a work.
func sums(work [][]int) (artists, machines []int, total int) {
	artists, machines = make([]int, len(work)), make([]int, len(work[0]))
	for artist, row := range work {
		for machine, n := range row {
			artists[artist] += n
			machines[machine] += n
			total += n
		}
	}
	return artists, machines, total
}

// bounded is a reason with its bound.
type bounded struct {
	reason hours.Reason
	bound  int
}

// bounds returns all reasons of a work, in order, with their bounds.
func bounds(work [][]int, seats int) []bounded {
	artists, machines, total := sums(work)
	var all []bounded
	for i, n := range artists {
		all = append(all, bounded{hours.Reason{Kind: hours.Artist, Index: i}, n})
	}
	for i, n := range machines {
		all = append(all, bounded{hours.Reason{Kind: hours.Machine, Index: i}, n})
	}
	n := 0
	for n*seats < total {
		n++
	}
	return append(all, bounded{hours.Reason{Kind: hours.Seats}, n})
}

// choice is one way to use an hour: where each artist works.
type choice []int

// isHour reports whether all can work so at the same time.
func (c choice) isHour(seats int) bool {
	working := slices.DeleteFunc(slices.Clone(c), func(machine int) bool { return machine == hours.Idle })
	slices.Sort(working)
	return len(working) <= seats && len(slices.Compact(slices.Clone(working))) == len(working)
}

// choices returns all ways to use an hour.
func choices(artists, machines, seats int) []choice {
	all := []choice{nil}
	for range artists {
		var longer []choice
		for _, c := range all {
			for machine := hours.Idle; machine < machines; machine++ {
				longer = append(longer, append(slices.Clone(c), machine))
			}
		}
		all = longer
	}
	return slices.DeleteFunc(all, func(c choice) bool { return !c.isHour(seats) })
}

// trial finds the shortest plans of small works by trying all ways to use each hour.
type trial struct {
	artists, machines int
	choices           []choice
	known             map[[9]int]outcome
}

// outcome is the shortest length of a plan, and bits for all artists and, after them, all machines that have a break in some plan of this length.
type outcome struct {
	length, breaks int
}

func trialOf(artists, machines, seats int) *trial {
	return &trial{artists, machines, choices(artists, machines, seats), map[[9]int]outcome{}}
}

// of returns the outcome for a work.
func (x *trial) of(work [][]int) outcome {
	var left [9]int
	for artist, row := range work {
		copy(left[artist*x.machines:], row)
	}
	return x.search(left)
}

// search returns the outcome for hours that are left, by artists.
func (x *trial) search(left [9]int) outcome {
	if left == [9]int{} {
		return outcome{}
	}
	if o, is := x.known[left]; is {
		return o
	}
	best := outcome{length: 1 << 30}
	for _, c := range x.choices {
		after, breaks, is := x.work(left, c)
		if !is {
			continue
		}
		o := x.search(after)
		o.length++
		o.breaks |= breaks
		switch {
		case o.length < best.length:
			best = o
		case o.length == best.length:
			best.breaks |= o.breaks
		}
	}
	x.known[left] = best
	return best
}

// work returns what is left after an hour, and who has a break in it. An hour in which nobody works is not in a shortest plan.
func (x *trial) work(left [9]int, c choice) (after [9]int, breaks int, is bool) {
	breaks = 1<<(x.artists+x.machines) - 1
	for artist, machine := range c {
		if machine == hours.Idle {
			continue
		}
		place := artist*x.machines + machine
		if left[place] == 0 {
			return left, 0, false
		}
		left[place]--
		breaks &^= 1<<artist | 1<<(x.artists+machine)
		is = true
	}
	return left, breaks, is
}

// trials are the trials for each size and number of seats.
type trials map[[3]int]*trial

// of returns the outcome for a work and seats.
func (all trials) of(work [][]int, seats int) outcome {
	key := [3]int{len(work), len(work[0]), seats}
	if all[key] == nil {
		all[key] = trialOf(key[0], key[1], seats)
	}
	return all[key].of(work)
}

// verified returns what Length is to return for a valid work and seats, as the chapter defines it.
func verified(work [][]int, seats int, plan []hours.Step) (int, api.Errno) {
	if len(plan) > 200 {
		return 0, api.ErrMany
	}
	artists, machines := len(work), len(work[0])
	for _, s := range plan {
		if len(s.At) != artists {
			return 0, api.ErrSize
		}
		if s.Hours < 1 || s.Hours > 1100 {
			return 0, api.ErrBounds
		}
		times := map[int]int{}
		for _, machine := range s.At {
			if machine < -1 || machine >= machines {
				return 0, api.ErrNone
			}
			times[machine]++
		}
		for machine := range machines {
			if times[machine] > 1 {
				return 0, api.ErrAgain
			}
		}
		if artists-times[-1] > seats {
			return 0, api.ErrOver
		}
	}
	length := 0
	done := even(artists, machines, 0)
	for _, s := range plan {
		length += s.Hours
		for artist, machine := range s.At {
			if machine >= 0 {
				done[artist][machine] += s.Hours
			}
		}
	}
	if !slices.EqualFunc(work, done, slices.Equal[[]int]) {
		return 0, api.ErrProof
	}
	return length, api.OK
}

func shortest(t *testing.T, work [][]int, seats int) int {
	t.Helper()
	n, e := hours.Shortest(work, seats)
	if e != api.OK {
		t.Fatalf("Shortest of %v with %d: %d", work, seats, e)
	}
	return n
}

func planOf(t *testing.T, work [][]int, seats int) []hours.Step {
	t.Helper()
	plan, e := hours.Plan(work, seats)
	if e != api.OK {
		t.Fatalf("Plan of %v with %d: %d", work, seats, e)
	}
	return plan
}

func busy(t *testing.T, work [][]int, seats int) (artists, machines []int) {
	t.Helper()
	artists, machines, e := hours.Busy(work, seats)
	if e != api.OK {
		t.Fatalf("Busy of %v with %d: %d", work, seats, e)
	}
	return artists, machines
}

func room(t *testing.T, work [][]int, seats, artist, machine int) int {
	t.Helper()
	n, e := hours.Room(work, seats, artist, machine)
	if e != api.OK {
		t.Fatalf("Room of %v with %d: %d and %d: %d", work, seats, artist, machine, e)
	}
	return n
}

func enough(t *testing.T, work [][]int, length int) int {
	t.Helper()
	n, e := hours.Enough(work, length)
	if e != api.OK {
		t.Fatalf("Enough of %v in %d: %d", work, length, e)
	}
	return n
}
