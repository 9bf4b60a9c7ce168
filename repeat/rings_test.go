package repeat_test

import (
	"math"
	"strings"
	"testing"

	"tusche/api"
	"tusche/repeat"
)

// P8.5: by all turns.
func TestFirst(t *testing.T) {
	for _, border := range borders() {
		if s := first(t, border); s != turns(border)[0] {
			t.Fatalf("First of %s: %s, want %s", border, s, turns(border)[0])
		}
	}
}

// P8.5: rings of all sizes, also of more than MaxRing figures.
func TestFirstEdges(t *testing.T) {
	for _, x := range [][2]string{
		{"z", "z"},
		{"ba", "ab"},
		{"abc", "abc"},
		{"bbba", "abbb"},
		{"baabaa", "aabaab"},
		{"abaab", "aabab"},
		{strings.Repeat("z", 24), strings.Repeat("z", 24)},
		{strings.Repeat("z", 23) + "y", "y" + strings.Repeat("z", 23)},
		{"bcdefghijklmnopqrstuvwxa", "abcdefghijklmnopqrstuvwx"},
		{"abaababa", "aabaabab"},
	} {
		if s := first(t, x[0]); s != x[1] {
			t.Errorf("First of %s: %s, want %s", x[0], s, x[1])
		}
	}
}

// P8.5: of two borders with the same number of figures, the second one is a piece of two copies of the first one just if they are the same ring.
func TestSame(t *testing.T) {
	all := upTo(6, 2)
	all = append(all, upTo(4, 3)...)
	are := 0
	for _, a := range all {
		for _, b := range all {
			want := len(a) == len(b) && strings.Contains(a+a, b)
			if same(t, a, b) != want {
				t.Fatalf("Same of %s and %s: %v", a, b, !want)
			}
			if want && a != b {
				are++
			}
		}
	}
	if are < 100 {
		t.Errorf("%d", are)
	}
}

// P8.5: of big borders, too.
func TestSameOfBig(t *testing.T) {
	for _, border := range bigBorders() {
		for _, other := range turns(border) {
			if !same(t, border, other) || !same(t, other, border) {
				t.Fatalf("%s and %s are the same", border, other)
			}
		}
		if n := len(border); n > 1 && n < repeat.MaxLength && (same(t, border, border[:n-1]) || same(t, border, border+border[:1])) {
			t.Fatalf("%s is the same ring as a border of another size", border)
		}
		if other := turned(border); same(t, border, other) != strings.Contains(border+border, other) {
			t.Fatalf("Same of %s and %s: %v", border, other, same(t, border, other))
		}
	}
}

// P8.5: the error of the first one comes before that of the second one.
func TestSameErrors(t *testing.T) {
	long := strings.Repeat("a", 25)
	for _, x := range []struct {
		a, b string
		want api.Errno
	}{
		{"", "a", api.ErrEmpty}, {"a", "", api.ErrEmpty}, {"", "", api.ErrEmpty},
		{long, "a", api.ErrLong}, {"a", long, api.ErrLong}, {"A", "a", api.ErrForm}, {"a", "A", api.ErrForm},
		{long, "", api.ErrLong}, {"", long, api.ErrEmpty}, {"A", long, api.ErrForm}, {long, "A", api.ErrLong}, {"A", "", api.ErrForm}, {"A", "A", api.ErrForm},
		{"a", "aa", api.OK}, {"a", "b", api.OK},
	} {
		if is, e := repeat.Same(x.a, x.b); is || e != x.want {
			t.Errorf("Same of %q and %q: %v %d, want %d", x.a, x.b, is, e, x.want)
		}
	}
}

// P8.6, M2: by a count of different rings.
func TestRingsOfSmall(t *testing.T) {
	for kinds := 1; kinds <= repeat.MaxKinds; kinds++ {
		number := 1
		for n := 1; n <= repeat.MaxRing; n++ {
			number *= kinds
			if number > 20000 {
				break
			}
			want := 0
			for _, border := range every(n, kinds) {
				if turns(border)[0] == border {
					want++
				}
			}
			if got := rings(t, n, kinds); got != want {
				t.Errorf("Rings of %d, %d: %d, want %d", n, kinds, got, want)
			}
		}
	}
}

// P8.6, P8.11, M2: each border of some n figures is one of those of the ring of its root; a ring whose root has r figures has r of them.
func TestRings(t *testing.T) {
	for kinds := 1; kinds <= repeat.MaxKinds; kinds++ {
		var roots [repeat.MaxRing + 1]int // by size: the number of rings that are their own roots
		all := 1
		for n := 1; n <= repeat.MaxRing; n++ {
			all *= kinds
			want, others := 0, 0
			for size := 1; size < n; size++ {
				if n%size == 0 {
					want += roots[size]
					others += roots[size] * size
				}
			}
			roots[n] = (all - others) / n
			if (all-others)%n != 0 {
				t.Fatalf("%d, %d", n, kinds)
			}
			want += roots[n]
			if got := rings(t, n, kinds); got != want {
				t.Errorf("Rings of %d, %d: %d, want %d", n, kinds, got, want)
			}
		}
	}
}

// P8.6: the smallest and the greatest numbers, and those beyond.
func TestRingsEdges(t *testing.T) {
	for _, x := range []struct {
		n, kinds, want int
		e              api.Errno
	}{
		{1, 1, 1, api.OK},
		{1, 9, 9, api.OK},
		{16, 1, 1, api.OK},
		{2, 9, 45, api.OK},
		{3, 2, 4, api.OK},
		{16, 2, 4116, api.OK},
		{16, 9, 115813764494505, api.OK},
		{15, 9, 13726075481049, api.OK},
		{0, 1, 0, api.ErrSize},
		{17, 1, 0, api.ErrSize},
		{24, 1, 0, api.ErrSize},
		{-1, 1, 0, api.ErrSize},
		{1, 0, 0, api.ErrSize},
		{1, 10, 0, api.ErrSize},
		{1, -1, 0, api.ErrSize},
		{0, 0, 0, api.ErrSize},
		{math.MinInt, 1, 0, api.ErrSize},
		{math.MaxInt, 1, 0, api.ErrSize},
		{1, math.MinInt, 0, api.ErrSize},
		{1, math.MaxInt, 0, api.ErrSize},
	} {
		if n, e := repeat.Rings(x.n, x.kinds); n != x.want || e != x.e {
			t.Errorf("Rings of %d, %d: %d %d, want %d %d", x.n, x.kinds, n, e, x.want, x.e)
		}
	}
}
