package rack_test

import (
	"slices"
	"testing"

	"tusche/api"
	"tusche/rack"
)

// The rows of the chapter's table of examples, in its order.

func TestExampleStiff(t *testing.T) {
	for _, x := range []struct {
		rack rack.Rack
		want bool
	}{{exampleR(), true}, {exampleS(), true}, {exampleC(), false}} {
		if is, e := rack.Stiff(x.rack); is != x.want || e != api.OK {
			t.Errorf("Stiff of %v: %t %d, want %t", x.rack, is, e, x.want)
		}
	}
}

func TestExampleNeeded(t *testing.T) {
	if l, e := rack.Needed(exampleR()); !slices.Equal(l, list(0, 1, 2, 3)) || e != api.OK {
		t.Errorf("Needed of R: %v %d", l, e)
	}
	if l, e := rack.Needed(exampleS()); len(l) != 0 || e != api.OK {
		t.Errorf("Needed of S: %v %d", l, e)
	}
}

func TestExampleTrim(t *testing.T) {
	if l, e := rack.Trim(exampleS()); !slices.Equal(l, list(0, 1, 2)) || e != api.OK {
		t.Errorf("Trim of S: %v %d", l, e)
	}
}

func TestExampleDetour(t *testing.T) {
	if l, e := rack.Detour(exampleS(), 0); !slices.Equal(l, list(1, 3, 2)) || e != api.OK {
		t.Errorf("Detour of S, 0: %v %d", l, e)
	}
}

func TestExampleGroups(t *testing.T) {
	want := []rack.Group{{Rows: list(0)}, {Columns: list(0)}, {Columns: list(1)}}
	if l, e := rack.Groups(exampleC()); !equalGroups(l, want) || e != api.OK {
		t.Errorf("Groups of C: %v %d", l, e)
	}
}

func TestExampleMove(t *testing.T) {
	m, e := rack.Move(exampleC())
	if e != api.OK || rack.Verify(exampleC(), m) != api.OK {
		t.Errorf("Move of C: %v %d", m, e)
	}
	if e := rack.Verify(exampleC(), rack.Motion{Rows: list(0), Columns: list(1, 0)}); e != api.OK {
		t.Errorf("Verify of C: %d", e)
	}
}

func TestExampleMissing(t *testing.T) {
	r := without(exampleR(), 1)
	if n, e := rack.Freedom(r); n != 1 || e != api.OK {
		t.Errorf("Freedom of R without the rod 1: %d %d", n, e)
	}
	l, e := rack.Missing(r)
	if len(l) != 1 || e != api.OK || !isStiff(with(r, l...)) {
		t.Errorf("Missing of R without the rod 1: %v %d", l, e)
	}
}

func TestExampleFreedom(t *testing.T) {
	if n, e := rack.Freedom(exampleC()); n != 0 || e != api.ErrKind {
		t.Errorf("Freedom of C: %d %d", n, e)
	}
}

func TestExampleWays(t *testing.T) {
	for _, x := range []struct{ rows, columns, want int }{{2, 2, 4}, {2, 3, 12}, {6, 6, 60466176}} {
		if n, e := rack.Ways(x.rows, x.columns); n != x.want || e != api.OK {
			t.Errorf("Ways of %d, %d: %d %d, want %d", x.rows, x.columns, n, e, x.want)
		}
	}
}
