package repeat_test

import (
	"slices"
	"testing"

	"tusche/api"
	"tusche/repeat"
)

// The rows of the chapter's table of examples, in its order.

func TestExamplePeriods(t *testing.T) {
	if l, e := repeat.Periods("abaababaaba"); !slices.Equal(l, list(5, 8, 10, 11)) || e != api.OK {
		t.Errorf("Periods of abaababaaba: %v %d", l, e)
	}
}

func TestExampleRoot(t *testing.T) {
	for _, x := range []struct {
		border, root string
		exponent     int
	}{{"abab", "ab", 2}, {"aba", "aba", 1}} {
		if root, exponent, e := repeat.Root(x.border); root != x.root || exponent != x.exponent || e != api.OK {
			t.Errorf("Root of %s: %s %d %d", x.border, root, exponent, e)
		}
	}
}

func TestExampleCovers(t *testing.T) {
	for _, x := range []struct {
		border string
		want   []int
	}{{"abaabaaba", list(3, 6, 9)}, {"abaababaaba", list(3, 6, 11)}} {
		if l, e := repeat.Covers(x.border); !slices.Equal(l, x.want) || e != api.OK {
			t.Errorf("Covers of %s: %v %d, want %v", x.border, l, e, x.want)
		}
	}
}

func TestExampleWide(t *testing.T) {
	for _, x := range []struct {
		p, q, n int
		want    string
	}{{3, 5, 6, "abaaba"}, {3, 5, 7, "aaaaaaa"}, {4, 6, 8, "abababab"}} {
		if s, e := repeat.Wide(x.p, x.q, x.n); s != x.want || e != api.OK {
			t.Errorf("Wide of %d, %d, %d: %s %d, want %s", x.p, x.q, x.n, s, e, x.want)
		}
	}
}

func TestExamplePlain(t *testing.T) {
	if s, e := repeat.Plain("abcab"); s != "abaab" || e != api.OK {
		t.Errorf("Plain of abcab: %s %d", s, e)
	}
}

func TestExampleFirst(t *testing.T) {
	if s, e := repeat.First("cab"); s != "abc" || e != api.OK {
		t.Errorf("First of cab: %s %d", s, e)
	}
	if is, e := repeat.Same("aab", "aba"); !is || e != api.OK {
		t.Errorf("Same of aab and aba: %v %d", is, e)
	}
}

func TestExampleRings(t *testing.T) {
	for _, x := range []struct{ n, kinds, want int }{{4, 2, 6}, {6, 3, 130}} {
		if n, e := repeat.Rings(x.n, x.kinds); n != x.want || e != api.OK {
			t.Errorf("Rings of %d, %d: %d %d, want %d", x.n, x.kinds, n, e, x.want)
		}
	}
}

func TestExampleJoin(t *testing.T) {
	if s, e := repeat.Join(rows("abca", "cab", "bcd")); s != "abcabcd" || e != api.OK {
		t.Errorf("Join of abca, cab, bcd: %s %d", s, e)
	}
}
