package hours_test

import (
	"math"
	"slices"
	"testing"

	"tusche/api"
	"tusche/hours"
)

// checkPlan checks that a plan is one for a work and seats, and that it is as short as any plan can be.
func checkPlan(t *testing.T, work [][]int, seats int, plan []hours.Step) {
	t.Helper()
	length, e := verified(work, seats, plan)
	if e != api.OK || length != shortest(t, work, seats) {
		t.Fatalf("Plan of %v with %d: %v: length %d, error %d, shortest %d", work, seats, plan, length, e, shortest(t, work, seats))
	}
	if n, e := hours.Length(work, seats, plan); n != length || e != api.OK {
		t.Fatalf("Length of %v with %d, %v: %d %d, want %d", work, seats, plan, n, e, length)
	}
	if e := hours.Verify(work, seats, plan); e != api.OK {
		t.Fatalf("Verify of %v with %d, %v: %d", work, seats, plan, e)
	}
}

// P7.2, M4: works of all sizes.
func TestPlan(t *testing.T) {
	for _, work := range works() {
		for seats := 1; seats <= hours.MaxSide; seats++ {
			checkPlan(t, work, seats, planOf(t, work, seats))
		}
	}
}

// P7.2: works of the greatest size, which need the most steps.
func TestBigPlans(t *testing.T) {
	for number := range 300 {
		for seats := 1; seats <= hours.MaxSide; seats++ {
			work := mixed(6-number%2, 6-number/2%2, 30, number%40, number)
			checkPlan(t, work, seats, planOf(t, work, seats))
		}
	}
}

// P7.2: without hours, nobody works.
func TestNoPlan(t *testing.T) {
	for _, work := range [][][]int{grid(1, 0), even(6, 6, 0), even(2, 3, 0)} {
		if plan, e := hours.Plan(work, 2); len(plan) > 0 || e != api.OK {
			t.Errorf("Plan of %v: %v %d", work, plan, e)
		}
		for _, plan := range [][]hours.Step{nil, steps()} {
			if n, e := hours.Length(work, 2, plan); n != 0 || e != api.OK || hours.Verify(work, 2, plan) != api.OK {
				t.Errorf("Length of %v, no steps: %d %d", work, n, e)
			}
		}
	}
}

// badPlan is a plan with an error.
type badPlan struct {
	plan []hours.Step
	want api.Errno
}

// badPlans are plans that are not valid for three artists, two machines and two seats, with their errors.
func badPlans() []badPlan {
	good := step(1, 0, 1, -1)
	all := []badPlan{
		{slices.Repeat(steps(good), 201), api.ErrMany},
		{make([]hours.Step, 201), api.ErrMany}, // before what is wrong with a step
		{slices.Repeat(steps(step(0, 9)), 5000), api.ErrMany},
		{slices.Repeat(steps(good), 200), api.ErrProof},
		{steps(step(1)), api.ErrSize},
		{steps(step(1, 0, 1)), api.ErrSize},
		{steps(step(1, 0, 1, -1, -1)), api.ErrSize},
		{steps(step(0, 9, 9)), api.ErrSize}, // before all that is wrong with the step
		{steps(step(0, 9, 0, 0)), api.ErrBounds},
		{steps(step(1101, 0, 1, -1)), api.ErrBounds},
		{steps(step(1100, 0, 1, -1)), api.ErrProof},
		{steps(step(1100, -1, -1, -1)), api.ErrProof},
		{slices.Repeat(steps(step(1100, 0, 1, -1)), 200), api.ErrProof},
		{steps(step(1, 0, 0, 2)), api.ErrNone}, // before a machine that occurs twice
		{steps(step(1, 0, 0, -2)), api.ErrNone},
		{steps(step(1, 2, 2, -1)), api.ErrNone},
		{steps(step(1, 0, 0, -1)), api.ErrAgain},
		{steps(step(1, 1, -1, 1)), api.ErrAgain},
		{steps(step(1, 0, 1, 0)), api.ErrAgain}, // before too many artists
		{steps(step(1, -1, -1, -1)), api.ErrProof},
		{steps(good, step(1, 0, 0, -1), step(1)), api.ErrAgain}, // the first step with an error decides
		{steps(good, step(1, 0, 9, -1), step(0, 0, 1, -1)), api.ErrNone},
		{steps(step(1, 0, 0, -1), step(1)), api.ErrAgain},
		{steps(good, good, step(1)), api.ErrSize}, // before what all of it comes to
		{nil, api.ErrProof},
	}
	for _, n := range list(0, -1, 1101, math.MinInt, math.MaxInt) {
		all = append(all, badPlan{steps(step(n, 0, 1, -1)), api.ErrBounds}, badPlan{steps(good, step(n, -1, -1, 0)), api.ErrBounds})
	}
	for _, n := range list(2, 3, 6, -2, math.MinInt, math.MaxInt) {
		all = append(all, badPlan{steps(step(1, n, 1, 0)), api.ErrNone}, badPlan{steps(good, step(1, -1, 1, n)), api.ErrNone})
	}
	return all
}

// P7.4.
func TestBadPlans(t *testing.T) {
	work := grid(2, 3, 0, 1, 2, 0, 3)
	for i, x := range badPlans() {
		n, e := hours.Length(work, 2, x.plan)
		if f := hours.Verify(work, 2, x.plan); e != x.want || f != x.want || n != 0 {
			t.Errorf("%d: Length of %v: %d %d, Verify: %d, want %d", i, x.plan, n, e, f, x.want)
		}
	}
}

// P7.4: as many artists as there are seats may work.
func TestSeatsOfSteps(t *testing.T) {
	work := even(6, 6, 1)
	for seats := 1; seats <= hours.MaxSide; seats++ {
		for working := range 7 {
			at := slices.Repeat(list(hours.Idle), 6)
			for i := range working {
				at[5-i] = i
			}
			want := api.ErrProof
			if working > seats {
				want = api.ErrOver
			}
			if e := hours.Verify(work, seats, steps(step(1, at...), step(1))); working > seats && e != want || working <= seats && e != api.ErrSize {
				t.Errorf("Verify with %d seats, first %v, then a bad step: %d", seats, at, e)
			}
			if _, e := hours.Length(work, seats, steps(step(1, at...))); e != want {
				t.Errorf("Length with %d seats, %v: %d, want %d", seats, at, e, want)
			}
		}
	}
}

// P7.4: plans that are longer than necessary, and plans with as many steps and hours as there can be.
func TestLongPlans(t *testing.T) {
	work := exampleW()
	none := step(1, hours.Idle, hours.Idle)
	for _, x := range []struct {
		work   [][]int
		seats  int
		plan   []hours.Step
		length int
		want   api.Errno
	}{
		{work, 2, examplePlan(), 4, api.OK},
		{work, 3, examplePlan(), 4, api.OK},
		{work, 2, steps(step(2, 0, 1), step(1, 1, hours.Idle), step(1, hours.Idle, 1)), 4, api.OK},
		{work, 2, steps(step(1, 1, hours.Idle), step(1, 0, 1), step(1, 0, 1), step(1, hours.Idle, 1)), 4, api.OK},
		{work, 2, append(examplePlan(), none), 5, api.ErrLost},
		{work, 2, append(steps(none), examplePlan()...), 5, api.ErrLost},
		{work, 2, append(examplePlan(), slices.Repeat(steps(none), 197)...), 201, api.ErrLost},
		{work, 2, append(examplePlan(), slices.Repeat(steps(step(1100, hours.Idle, hours.Idle)), 197)...), 216704, api.ErrLost},
		{work, 2, steps(step(2, 0, hours.Idle), step(3, hours.Idle, 1), step(1, 1, hours.Idle)), 6, api.ErrLost},
		{work, 1, steps(step(2, 0, hours.Idle), step(3, hours.Idle, 1), step(1, 1, hours.Idle)), 6, api.OK},
		{work, 1, steps(step(1, 0, hours.Idle), step(3, hours.Idle, 1), none, step(1, 0, hours.Idle), step(1, 1, hours.Idle)), 7, api.ErrLost},
		{grid(1, 0), 1, steps(step(1, hours.Idle)), 1, api.ErrLost},
		{grid(1, 30), 1, slices.Repeat(steps(step(1, 0)), 30), 30, api.OK},
	} {
		if n, e := hours.Length(x.work, x.seats, x.plan); n != x.length || e != api.OK {
			t.Errorf("Length of %v with %d, %v: %d %d, want %d", x.work, x.seats, x.plan, n, e, x.length)
		}
		if e := hours.Verify(x.work, x.seats, x.plan); e != x.want {
			t.Errorf("Verify of %v with %d, %v: %d, want %d", x.work, x.seats, x.plan, e, x.want)
		}
	}
}

// P7.4: plans that almost serve a work.
func TestPlansForOtherWork(t *testing.T) {
	for i, plan := range [][]hours.Step{
		examplePlan()[1:],
		examplePlan()[:2],
		append(examplePlan(), step(1, 0, hours.Idle)),
		steps(step(1, 1, hours.Idle), step(3, 0, 1)),
		steps(step(1, 1, 0), step(2, 0, 1), step(1, hours.Idle, 1)), // too many hours at another machine
		steps(step(1, 0, hours.Idle), step(2, 1, hours.Idle), step(3, hours.Idle, 1)),
		steps(step(2, 0, 1), step(1, hours.Idle, 1)),
	} {
		n, e := hours.Length(exampleW(), 2, plan)
		if f := hours.Verify(exampleW(), 2, plan); n != 0 || e != api.ErrProof || f != api.ErrProof {
			t.Errorf("%d: Length of %v: %d %d, Verify: %d", i, plan, n, e, f)
		}
	}
}

// changed returns a plan with one thing changed at some place.
func changed(plan []hours.Step, artists, machines int, next func(int) int) []hours.Step {
	var other []hours.Step
	for _, s := range plan {
		other = append(other, step(s.Hours, slices.Clone(s.At)...))
	}
	i := next(len(other))
	switch next(8) {
	case 0:
		other[i].Hours += next(4) - 1
	case 1:
		other[i].At[next(artists)] = next(machines+2) - 1
	case 2:
		other = slices.Delete(other, i, i+1)
	case 3:
		other = append(other, step(1+next(3), slices.Repeat(list(hours.Idle), artists)...))
	case 4:
		slices.Reverse(other)
	case 5:
		other = append(other, step(1, slices.Clone(other[i].At)...))
		other[i].Hours--
	case 6:
		other[i].At = other[i].At[:next(artists)]
	case 7:
		j := next(artists)
		other = append(other, step(1, slices.Repeat(list(hours.Idle), artists)...))
		other[len(other)-1].At[j] = other[i].At[j]
		other[i].At[j] = hours.Idle
	}
	return other
}

// P7.4: plans that were changed, by the chapter's definitions.
func TestChangedPlans(t *testing.T) {
	seen := map[api.Errno]int{}
	next := chance(4711)
	for number, work := range works() {
		seats := 1 + number%6
		plan := planOf(t, work, seats)
		for round := range 3 {
			if len(plan) == 0 || slices.ContainsFunc(plan, func(s hours.Step) bool { return len(s.At) != len(work) }) {
				break
			}
			plan = changed(plan, len(work), len(work[0]), next)
			fits := max(1, seats-round)
			length, want := verified(work, fits, plan)
			if n, e := hours.Length(work, fits, plan); n != length || e != want {
				t.Fatalf("Length of %v with %d, %v: %d %d, want %d %d", work, fits, plan, n, e, length, want)
			}
			if want == api.OK && length > shortest(t, work, fits) {
				want = api.ErrLost
			}
			if e := hours.Verify(work, fits, plan); e != want {
				t.Fatalf("Verify of %v with %d, %v: %d, want %d", work, fits, plan, e, want)
			}
			seen[want]++
		}
	}
	for _, e := range []api.Errno{api.OK, api.ErrSize, api.ErrBounds, api.ErrNone, api.ErrAgain, api.ErrOver, api.ErrProof, api.ErrLost} {
		if seen[e] < 5 {
			t.Errorf("%d comes %d times", e, seen[e])
		}
	}
}
