package repeat_test

import (
	"math"
	"slices"
	"strings"
	"testing"

	"tusche/api"
	"tusche/repeat"
)

// P8.1: by the definition.
func TestPeriods(t *testing.T) {
	for _, border := range borders() {
		if l := periods(t, border); !slices.Equal(l, periodsOf(border)) {
			t.Fatalf("Periods of %s: %v, want %v", border, l, periodsOf(border))
		}
	}
}

// P8.1: one period, all of them, and some.
func TestPeriodsEdges(t *testing.T) {
	for _, x := range []struct {
		border string
		want   []int
	}{
		{"a", list(1)},
		{"zz", list(1, 2)},
		{"az", list(2)},
		{"aba", list(2, 3)},
		{"abc", list(3)},
		{"aabaa", list(3, 4, 5)},
		{strings.Repeat("a", 8), list(1, 2, 3, 4, 5, 6, 7, 8)},
		{strings.Repeat("a", 7) + "b", list(8)},
		{"abcdefghijklmnopqrstuvwx", list(24)},
		{"abcdefghijklmnopqrstuvwa", list(23, 24)},
		{strings.Repeat("abcd", 6), list(4, 8, 12, 16, 20, 24)},
		{strings.Repeat("abcde", 4) + "abcd", list(5, 10, 15, 20, 24)},
	} {
		if l := periods(t, x.border); !slices.Equal(l, x.want) {
			t.Errorf("Periods of %s: %v, want %v", x.border, l, x.want)
		}
	}
}

// P8.2: by the definition.
func TestRoot(t *testing.T) {
	for _, border := range borders() {
		want, wantExponent := rootOf(border)
		if s, n := root(t, border); s != want || n != wantExponent {
			t.Fatalf("Root of %s: %s %d, want %s %d", border, s, n, want, wantExponent)
		}
	}
}

// P8.2: periods that do not divide the number of figures make no root.
func TestRootEdges(t *testing.T) {
	for _, x := range []struct {
		border, root string
		exponent     int
	}{
		{"a", "a", 1},
		{"zz", "z", 2},
		{"ababa", "ababa", 1},
		{"abaababaaba", "abaababaaba", 1},
		{"aabaab", "aab", 2},
		{"abaabaab", "abaabaab", 1},
		{strings.Repeat("x", 24), "x", 24},
		{strings.Repeat("x", 23), "x", 23},
		{strings.Repeat("aab", 8), "aab", 8},
		{strings.Repeat("abacabadabac", 2), "abacabadabac", 2},
		{"abcdefghijklmnopqrstuvwx", "abcdefghijklmnopqrstuvwx", 1},
	} {
		if s, n := root(t, x.border); s != x.root || n != x.exponent {
			t.Errorf("Root of %s: %s %d, want %s %d", x.border, s, n, x.root, x.exponent)
		}
	}
}

// P8.2: by the definition.
func TestCovers(t *testing.T) {
	several := 0
	for _, border := range borders() {
		l := covers(t, border)
		if !slices.Equal(l, coversOf(border)) {
			t.Fatalf("Covers of %s: %v, want %v", border, l, coversOf(border))
		}
		if len(l) > 1 {
			several++
		}
	}
	if several < 100 {
		t.Errorf("%d", several)
	}
}

// P8.2: pieces that lie behind each other, over each other, and with a gap.
func TestCoversEdges(t *testing.T) {
	for _, x := range []struct {
		border string
		want   []int
	}{
		{"a", list(1)},
		{"zz", list(1, 2)},
		{"ab", list(2)},
		{"abab", list(2, 4)},
		{"ababa", list(3, 5)},
		{"abcab", list(5)},
		{"abaaba", list(3, 6)},
		{"abacaba", list(7)},
		{"aabaaabaa", list(5, 9)},
		{"abacababacaba", list(7, 13)}, // with 3 figures, the pieces leave gaps
		{strings.Repeat("a", 5), list(1, 2, 3, 4, 5)},
		{"abaababaabaababaababaaba", list(3, 6, 11, 24)},
		{"aaaaaaaaaaaaaaaaaaaaaaab", list(24)},
	} {
		if l := covers(t, x.border); !slices.Equal(l, x.want) {
			t.Errorf("Covers of %s: %v, want %v", x.border, l, x.want)
		}
	}
}

// widest returns the borders that have two periods, and among all of those the most figures.
func widest(all []string, p, q int) []string {
	var best []string
	for _, border := range all {
		if !isPeriod(border, p) || !isPeriod(border, q) {
			continue
		}
		figures := len(figuresOf(border))
		if len(best) == 0 || figures > len(figuresOf(best[0])) {
			best = nil
		}
		if len(best) == 0 || figures == len(figuresOf(best[0])) {
			best = append(best, border)
		}
	}
	return best
}

// P8.3: by a trial of all borders.
func TestWideOfSmall(t *testing.T) {
	for n := 1; n <= 7; n++ {
		all := named(n)
		for p := 1; p <= n; p++ {
			for q := 1; q <= n; q++ {
				if s, want := wide(t, p, q, n), widest(all, p, q); len(want) != 1 || s != want[0] {
					t.Errorf("Wide of %d, %d, %d: %s, want %v", p, q, n, s, want)
				}
			}
		}
	}
}

// P8.3, M5: all sizes; it does not matter which period comes first.
func TestWide(t *testing.T) {
	for n := 1; n <= repeat.MaxLength; n++ {
		for p := 1; p <= n; p++ {
			for q := 1; q <= n; q++ {
				s := wide(t, p, q, n)
				if s != wideOf(p, q, n) || s != wide(t, q, p, n) || len(s) != n || !isPeriod(s, p) || !isPeriod(s, q) {
					t.Fatalf("Wide of %d, %d, %d: %s, want %s", p, q, n, s, wideOf(p, q, n))
				}
				if figuresOf(s) != alphabet(len(figuresOf(s))) || repeat.Check(s) != api.OK {
					t.Fatalf("Wide of %d, %d, %d: %s", p, q, n, s)
				}
			}
		}
	}
}

// P8.3: the greatest sizes, and those that are none.
func TestWideEdges(t *testing.T) {
	for _, x := range []struct {
		p, q, n int
		want    string
		e       api.Errno
	}{
		{1, 1, 1, "a", api.OK},
		{24, 24, 24, "abcdefghijklmnopqrstuvwx", api.OK},
		{23, 24, 24, "abcdefghijklmnopqrstuvwa", api.OK},
		{1, 24, 24, strings.Repeat("a", 24), api.OK},
		{23, 22, 24, "aabcdefghijklmnopqrstuaa", api.OK},
		{5, 8, 11, "abaababaaba", api.OK},
		{1, 1, 0, "", api.ErrSize},
		{1, 1, 25, "", api.ErrSize},
		{1, 1, -1, "", api.ErrSize},
		{0, 1, 1, "", api.ErrSize},
		{1, 0, 1, "", api.ErrSize},
		{2, 1, 1, "", api.ErrSize},
		{1, 2, 1, "", api.ErrSize},
		{25, 24, 24, "", api.ErrSize},
		{24, 25, 24, "", api.ErrSize},
		{-1, 4, 8, "", api.ErrSize},
		{4, -1, 8, "", api.ErrSize},
		{0, 0, 0, "", api.ErrSize},
		{math.MaxInt, 1, 8, "", api.ErrSize},
		{1, math.MinInt, 8, "", api.ErrSize},
		{1, 1, math.MaxInt, "", api.ErrSize},
		{math.MinInt, math.MinInt, math.MinInt, "", api.ErrSize},
	} {
		if s, e := repeat.Wide(x.p, x.q, x.n); s != x.want || e != x.e {
			t.Errorf("Wide of %d, %d, %d: %s %d, want %s %d", x.p, x.q, x.n, s, e, x.want, x.e)
		}
	}
}

// plains returns the smallest border of a and b, with n figures, for each set of periods, as a border in which periods are marked.
func plains(n int) map[string]string {
	all := map[string]string{}
	for _, border := range every(n, 2) {
		if key := marked(border); all[key] == "" {
			all[key] = border
		}
	}
	return all
}

// marked returns a text with a mark at each period of a border.
func marked(border string) string {
	marks := []byte(strings.Repeat(".", len(border)+1))
	for _, p := range periodsOf(border) {
		marks[p] = '|'
	}
	return string(marks)
}

// P8.4, M3: by a trial of all borders of a and b, for each set of periods that borders with any figures have. There is one for each.
func TestPlain(t *testing.T) {
	for n := 1; n <= repeat.MaxPlain; n++ {
		all := plains(n)
		sets := linkedBorders(n)
		if len(sets) != len(all) {
			t.Errorf("%d figures: %d and %d sets of periods", n, len(sets), len(all))
		}
		for _, border := range sets {
			for _, by := range list(0, 7, -3) {
				other := exchanged(border, by)
				if s := plain(t, other); s != all[marked(border)] || s == "" {
					t.Fatalf("Plain of %s: %s, want %s", other, s, all[marked(border)])
				}
			}
		}
	}
}

// P8.4: borders in which figures are equal that need not be.
func TestPlainOfSmall(t *testing.T) {
	known := map[int]map[string]string{}
	for _, border := range smallBorders() {
		n := len(border)
		if known[n] == nil {
			known[n] = plains(n)
		}
		if s := plain(t, border); s != known[n][marked(border)] {
			t.Fatalf("Plain of %s: %s, want %s", border, s, known[n][marked(border)])
		}
	}
}

// P8.4: at most MaxPlain figures.
func TestPlainEdges(t *testing.T) {
	for _, x := range []struct {
		border, want string
		e            api.Errno
	}{
		{"z", "a", api.OK},
		{"zz", "aa", api.OK},
		{"ba", "ab", api.OK},
		{"abcdefghijklmn", "aaaaaaaaaaaaab", api.OK},
		{"babababababaab", "aaaaaaaaaaaaba", api.OK},
		{"nnnnnnnnnnnnnn", "aaaaaaaaaaaaaa", api.OK},
		{"bababababababa", "ababababababab", api.OK},
		{"abcdefghijklmno", "", api.ErrOver},
		{"aaaaaaaaaaaaaaa", "", api.ErrOver},
		{"abcdefghijklmnopqrstuvwx", "", api.ErrOver},
		{"abcdefghijklmnopqrstuvwxy", "", api.ErrLong},
		{"abcdefghijklmnO", "", api.ErrForm},
	} {
		if s, e := repeat.Plain(x.border); s != x.want || e != x.e {
			t.Errorf("Plain of %s: %s %d, want %s %d", x.border, s, e, x.want, x.e)
		}
	}
}
