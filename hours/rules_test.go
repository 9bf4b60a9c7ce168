package hours_test

import (
	"math"
	"slices"
	"testing"

	"tusche/api"
	"tusche/hours"
)

// question is arguments for all functions.
type question struct {
	work            [][]int
	seats           int
	reason          hours.Reason
	plan            []hours.Step
	artist, machine int
	length          int
}

// answer is everything that the functions return for a question. Its errors come in the order in which the chapter lists the functions.
type answer struct {
	artists, machines                     []int
	busyArtists, busyMachines             []int
	shortest, bound, length, room, enough int
	reason                                hours.Reason
	plan                                  []hours.Step
	errors                                [11]api.Errno
}

func ask(q question) answer {
	var a answer
	a.errors[0] = hours.Check(q.work)
	a.artists, a.machines, a.errors[1] = hours.Sums(q.work)
	a.shortest, a.errors[2] = hours.Shortest(q.work, q.seats)
	a.reason, a.errors[3] = hours.Why(q.work, q.seats)
	a.bound, a.errors[4] = hours.Bound(q.work, q.seats, q.reason)
	a.plan, a.errors[5] = hours.Plan(q.work, q.seats)
	a.length, a.errors[6] = hours.Length(q.work, q.seats, q.plan)
	a.errors[7] = hours.Verify(q.work, q.seats, q.plan)
	a.busyArtists, a.busyMachines, a.errors[8] = hours.Busy(q.work, q.seats)
	a.room, a.errors[9] = hours.Room(q.work, q.seats, q.artist, q.machine)
	a.enough, a.errors[10] = hours.Enough(q.work, q.length)
	return a
}

// lists returns all lists of numbers of an answer.
func (a answer) lists() [][]int {
	all := [][]int{a.artists, a.machines, a.busyArtists, a.busyMachines}
	for _, s := range a.plan {
		all = append(all, s.At)
	}
	return all
}

// numbers returns all results of an answer that are numbers.
func (a answer) numbers() [5]int {
	return [...]int{a.shortest, a.bound, a.length, a.room, a.enough}
}

// equalPlans reports whether plans are the same.
func equalPlans(a, b []hours.Step) bool {
	return slices.EqualFunc(a, b, func(s, o hours.Step) bool { return s.Hours == o.Hours && slices.Equal(s.At, o.At) })
}

func (a answer) equal(b answer) bool {
	return a.numbers() == b.numbers() && a.reason == b.reason && a.errors == b.errors && equalPlans(a.plan, b.plan) && slices.EqualFunc(a.lists(), b.lists(), slices.Equal[[]int])
}

// checkNothing checks that nothing comes with an error (R2).
func (a answer) checkNothing(t *testing.T, q question) {
	t.Helper()
	e := a.errors
	for i, function := range list(2, 4, 6, 9, 10) {
		if e[function] != api.OK && a.numbers()[i] != 0 {
			t.Errorf("%v: %v", q, a)
		}
	}
	if e[1] != api.OK && len(a.artists)+len(a.machines) > 0 || e[3] != api.OK && a.reason != (hours.Reason{}) || e[5] != api.OK && len(a.plan) > 0 ||
		e[8] != api.OK && len(a.busyArtists)+len(a.busyMachines) > 0 {
		t.Errorf("%v: %v", q, a)
	}
}

// P1, R1, R2: whatever comes, each function ends, and nothing comes with an error.
func TestWhateverComes(t *testing.T) {
	all := append(bigWorks()[:120], everyWork(2, 2, 2)...)
	for _, x := range badWorks() {
		all = append(all, x.work)
	}
	var plans [][]hours.Step
	for _, x := range badPlans() {
		plans = append(plans, x.plan)
	}
	plans = append(plans, examplePlan(), steps(step(math.MaxInt, 0), step(math.MinInt, 1, 0)), make([]hours.Step, 5000))
	numbers := list(0, 1, 2, 3, 5, 6, 7, -1, math.MinInt, math.MaxInt)
	for i, work := range all {
		for j, plan := range plans {
			number := func(k int) int { return numbers[(i+j*k+j/7)%len(numbers)] }
			q := question{work, number(1), hours.Reason{Kind: number(2), Index: number(3)}, plan, number(4), number(5), number(6)}
			a := ask(q)
			a.checkNothing(t, q)
			if is := a.errors[0] == api.OK; is != (a.errors[1] == api.OK) || a.errors[2] != a.errors[3] || a.errors[2] != a.errors[5] || a.errors[2] != a.errors[8] {
				t.Fatalf("%v: %v", q, a)
			}
		}
	}
}

// R3: a nil list and one without elements are the same.
func TestNoList(t *testing.T) {
	for _, x := range [][2]question{
		{{}, {work: [][]int{}, plan: steps()}},
		{{work: even(2, 2, 0), seats: 1}, {work: even(2, 2, 0), seats: 1, plan: steps()}},
		{{work: exampleW(), seats: 1}, {work: exampleW(), seats: 1, plan: steps()}},
		{{work: [][]int{nil}, seats: 1}, {work: [][]int{{}}, seats: 1}},
		{{work: [][]int{{1}, nil}, seats: 1}, {work: [][]int{{1}, {}}, seats: 1}},
		{{work: exampleW(), seats: 1, plan: make([]hours.Step, 1)}, {work: exampleW(), seats: 1, plan: []hours.Step{{At: list()}}}},
	} {
		if a, b := ask(x[0]), ask(x[1]); !a.equal(b) {
			t.Errorf("%v: %v and %v", x, a, b)
		}
	}
}

// R1: of several errors, the first one that is mentioned.
func TestSeveralErrors(t *testing.T) {
	work := exampleW()
	for i, x := range []struct {
		q    question
		want [11]api.Errno
	}{
		{question{work: work, seats: 7, reason: hours.Reason{Kind: 3}, plan: make([]hours.Step, 201), artist: 2, length: -1}, [...]api.Errno{0, 0, 4, 4, 4, 4, 4, 4, 4, 4, 4}},
		{question{work: work, seats: 2, reason: hours.Reason{Kind: 3}, plan: make([]hours.Step, 201), artist: 2, length: -1}, [...]api.Errno{0, 0, 0, 0, 5, 0, 2, 2, 0, 5, 4}},
		{question{work: work, seats: 1, reason: hours.Reason{Kind: 2, Index: 1}, plan: examplePlan(), machine: 2, length: 3}, [...]api.Errno{0, 0, 0, 0, 5, 0, 16, 16, 0, 5, 14}},
		{question{work: work, seats: 1, plan: append(examplePlan()[:1], step(9, 0, 1), step(9)), length: 4}, [...]api.Errno{0, 0, 0, 0, 0, 0, 16, 16, 0, 0, 0}},
		{question{work: even(2, 2, 0), seats: 1, plan: steps(step(1, -1, -1))}, [...]api.Errno{0, 0, 0, 0, 0, 0, 0, 14, 0, 0, 0}},
		{question{work: even(2, 2, 1), seats: 1, plan: steps(step(9, -1, -1))}, [...]api.Errno{0, 0, 0, 0, 0, 0, 13, 13, 0, 0, 14}}, // it is too long as well
	} {
		a := ask(x.q)
		if a.errors != x.want {
			t.Errorf("%d: %v, want %v", i, a.errors, x.want)
		}
		a.checkNothing(t, x.q)
	}
}

// cutOff returns a question whose lists have some sizes, and the same question with whole lists, which share their memory: they go on behind the ends of the former ones.
func cutOff(size int) (q, whole question) {
	artists, machines := 1+size%6, 1+size/6
	whole = question{work: mixed(6, 6, 9, 20, size), seats: 1 + size%4, reason: hours.Reason{Kind: size % 3}, length: 60}
	q = whole
	q.work = slices.Clone(whole.work)[:artists]
	for i, row := range q.work {
		q.work[i] = row[:machines]
	}
	whole.plan, _ = hours.Plan(whole.work, whole.seats)
	plan, _ := hours.Plan(q.work, q.seats)
	for i, s := range plan { // at the beginning of the memory of the plan for all of it
		copy(whole.plan[i].At, s.At)
		whole.plan[i].Hours = s.Hours
	}
	q.plan = slices.Clone(whole.plan)[:len(plan)]
	for i, s := range q.plan {
		q.plan[i].At = s.At[:artists]
	}
	return q, whole
}

// same reports whether the lists of questions are the same.
func same(a, b question) bool {
	return slices.EqualFunc(a.work, b.work, slices.Equal[[]int]) && equalPlans(a.plan, b.plan)
}

// R4, R8: arguments are not changed, also behind their ends, and equal arguments give equal results.
func TestArguments(t *testing.T) {
	for size := range 36 {
		q, whole := cutOff(size)
		a := ask(q)
		other, kept := cutOff(size)
		if !same(q, other) || !same(whole, kept) {
			t.Errorf("%v became %v", kept, whole)
		}
		if a.errors != [11]api.Errno{} {
			t.Errorf("%v: %v", q, a.errors)
		}
		for range 3 {
			if b := ask(other); !a.equal(b) {
				t.Errorf("%v: %v and %v", other, a, b)
			}
		}
	}
}

// R4: results are memory of their own.
func TestResultsAreNew(t *testing.T) {
	for size := range 36 {
		q, whole := cutOff(size)
		_, kept := cutOff(size)
		a, want := ask(q), ask(q)
		for i, l := range a.lists() {
			for j := range l[:cap(l)] {
				l[:cap(l)][j] = -9 - i
			}
			for j, other := range a.lists() {
				if j != i && slices.Contains(other, -9-i) {
					t.Fatalf("%v: two results share memory: %v", q, a)
				}
			}
		}
		clear(a.plan[:cap(a.plan)])
		if b := ask(q); !b.equal(want) || !same(whole, kept) {
			t.Fatalf("%v: what is done to results changes %v to %v", q, want, b)
		}
	}
}
