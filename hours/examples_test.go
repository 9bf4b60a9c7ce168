package hours_test

import (
	"slices"
	"testing"

	"tusche/api"
	"tusche/hours"
)

// The rows of the chapter's table of examples, in its order.

func TestExampleSums(t *testing.T) {
	if a, m, e := hours.Sums(exampleW()); !slices.Equal(a, list(3, 3)) || !slices.Equal(m, list(2, 4)) || e != api.OK {
		t.Errorf("Sums of W: %v %v %d", a, m, e)
	}
}

func TestExampleShortest(t *testing.T) {
	for _, x := range []struct {
		work        [][]int
		seats, want int
	}{{exampleW(), 2, 4}, {exampleW(), 1, 6}, {exampleV(), 3, 3}, {exampleV(), 2, 5}} {
		if n, e := hours.Shortest(x.work, x.seats); n != x.want || e != api.OK {
			t.Errorf("Shortest of %v with %d: %d %d, want %d", x.work, x.seats, n, e, x.want)
		}
	}
}

func TestExampleWhy(t *testing.T) {
	if r, e := hours.Why(exampleW(), 2); r != (hours.Reason{Kind: hours.Machine, Index: 1}) || e != api.OK {
		t.Errorf("Why of W with 2: %v %d", r, e)
	}
	if r, e := hours.Why(exampleV(), 2); r != (hours.Reason{Kind: hours.Seats}) || e != api.OK {
		t.Errorf("Why of V with 2: %v %d", r, e)
	}
}

func TestExamplePlan(t *testing.T) {
	plan := planOf(t, exampleW(), 2)
	if n, e := hours.Length(exampleW(), 2, plan); n != 4 || e != api.OK {
		t.Errorf("Length of %v: %d %d", plan, n, e)
	}
	if e := hours.Verify(exampleW(), 2, plan); e != api.OK {
		t.Errorf("Verify of %v: %d", plan, e)
	}
}

func TestExampleLength(t *testing.T) {
	if n, e := hours.Length(exampleW(), 2, examplePlan()); n != 4 || e != api.OK {
		t.Errorf("Length of that plan: %d %d", n, e)
	}
	if e := hours.Verify(exampleW(), 2, examplePlan()); e != api.OK {
		t.Errorf("Verify of that plan: %d", e)
	}
}

func TestExampleBusy(t *testing.T) {
	if a, m, e := hours.Busy(exampleW(), 2); len(a) > 0 || !slices.Equal(m, list(1)) || e != api.OK {
		t.Errorf("Busy of W with 2: %v %v %d", a, m, e)
	}
	if a, m, e := hours.Busy(exampleW(), 1); len(a) > 0 || len(m) > 0 || e != api.OK {
		t.Errorf("Busy of W with 1: %v %v %d", a, m, e)
	}
}

func TestExampleRoom(t *testing.T) {
	for _, x := range []struct{ artist, machine, want int }{{0, 0, 1}, {1, 0, 1}, {1, 1, 0}} {
		if n, e := hours.Room(exampleW(), 2, x.artist, x.machine); n != x.want || e != api.OK {
			t.Errorf("Room of W with 2: %d and %d: %d %d, want %d", x.artist, x.machine, n, e, x.want)
		}
	}
}

func TestExampleEnough(t *testing.T) {
	for _, x := range []struct {
		length, want int
		e            api.Errno
	}{{3, 3, api.OK}, {5, 2, api.OK}, {2, 0, api.ErrLost}} {
		if n, e := hours.Enough(exampleV(), x.length); n != x.want || e != x.e {
			t.Errorf("Enough of V in %d: %d %d, want %d %d", x.length, n, e, x.want, x.e)
		}
	}
}
