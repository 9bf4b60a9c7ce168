package repeat_test

import (
	"slices"
	"strings"
	"testing"

	"tusche/repeat"
)

// P8.8, M4: borders with enough figures that have two periods have their common divisor.
func TestTwoPeriods(t *testing.T) {
	have := 0
	for _, border := range borders() {
		l := periods(t, border)
		for _, p := range l {
			for _, q := range l {
				g := divisor(p, q)
				if len(border) < p+q-g {
					continue
				}
				if !slices.Contains(l, g) {
					t.Fatalf("Periods of %s: %v", border, l)
				}
				if g < min(p, q) {
					have++
				}
			}
		}
	}
	if have < 100 {
		t.Errorf("%d", have)
	}
}

// P8.8, M4: how many figures a wide border has. With one figure less than it takes for the divisor, it does not have this period.
func TestFiguresOfWide(t *testing.T) {
	for n := 1; n <= repeat.MaxLength; n++ {
		for p := 1; p <= n; p++ {
			for q := 1; q <= n; q++ {
				g := divisor(p, q)
				s := wide(t, p, q, n)
				if figures := len(figuresOf(s)); figures != max(g, p+q-n) {
					t.Fatalf("Wide of %d, %d, %d: %s has %d figures", p, q, n, s, figures)
				}
				if has := slices.Contains(periods(t, s), g); g < min(p, q) && has != (n >= p+q-g) {
					t.Fatalf("Wide of %d, %d, %d: %s has the period %d: %v", p, q, n, s, g, has)
				}
			}
		}
	}
}

// P8.9.
func TestMultiplesOfPeriods(t *testing.T) {
	for _, border := range borders() {
		l := periods(t, border)
		for _, p := range l {
			for multiple := p; multiple <= len(border); multiple += p {
				if !slices.Contains(l, multiple) {
					t.Fatalf("Periods of %s: %v, not %d", border, l, multiple)
				}
			}
			if p == len(border) {
				continue
			}
			for _, q := range periods(t, border[:len(border)-p]) {
				if !slices.Contains(l, p+q) {
					t.Fatalf("Periods of %s: %v, not %d", border, l, p+q)
				}
			}
		}
	}
}

// P8.9: the smallest period, and the exponent.
func TestSmallestPeriod(t *testing.T) {
	for _, border := range borders() {
		l := periods(t, border)
		s, exponent := root(t, border)
		divides := len(border)%l[0] == 0
		if divides != (exponent > 1 || len(l) == 1) || divides && len(border)/l[0] != exponent {
			t.Fatalf("Periods of %s: %v, Root: %s %d", border, l, s, exponent)
		}
		if other, n := root(t, s); other != s || n != 1 || strings.Repeat(s, exponent) != border {
			t.Fatalf("Root of %s: %s %d, of that: %s %d", border, s, exponent, other, n)
		}
	}
}

// P8.10.
func TestCoversAndPeriods(t *testing.T) {
	for _, border := range borders() {
		l := periods(t, border)
		lengths := covers(t, border)
		for _, k := range lengths {
			if k != len(border) && !slices.Contains(l, len(border)-k) {
				t.Fatalf("Covers of %s: %v, Periods: %v", border, lengths, l)
			}
			for _, shorter := range covers(t, border[:k]) {
				if !slices.Contains(lengths, shorter) {
					t.Fatalf("Covers of %s: %v, but of %s: %d", border, lengths, border[:k], shorter)
				}
			}
		}
	}
}

// P8.11, M5: what all borders of a ring have in common, and how many there are.
func TestBordersOfRing(t *testing.T) {
	for _, border := range borders() {
		s, exponent := root(t, border)
		all := turns(border)
		if len(all) != len(s) {
			t.Fatalf("%s has the root %s and %d turns", border, s, len(all))
		}
		for _, other := range all {
			r, n := root(t, other)
			if first(t, other) != first(t, border) || n != exponent || !same(t, r, s) || !same(t, other, border) {
				t.Fatalf("%s and %s: First %s and %s, Root %s %d and %s %d", border, other, first(t, border), first(t, other), s, exponent, r, n)
			}
		}
	}
}

// P8.11, M2: the roots of all rings have as many figures as there are borders.
func TestAllRings(t *testing.T) {
	for _, x := range [][2]int{{1, 9}, {2, 9}, {3, 7}, {4, 6}, {5, 5}, {6, 4}, {8, 3}, {12, 2}, {13, 2}, {16, 1}} {
		forms := map[string]bool{}
		all := every(x[0], x[1])
		for _, border := range all {
			forms[first(t, border)] = true
		}
		figures := 0
		for form := range forms {
			s, _ := root(t, form)
			figures += len(s)
		}
		if n := rings(t, x[0], x[1]); n != len(forms) || figures != len(all) {
			t.Errorf("Rings of %v: %d, %d forms; %d figures, %d borders", x, n, len(forms), figures, len(all))
		}
	}
}

// P8.12, M3: a joint row contains all borders, and no figure too many.
func TestJointRows(t *testing.T) {
	for _, l := range joins() {
		s := join(t, l)
		for i, border := range l {
			if !strings.Contains(s, border) {
				t.Fatalf("Join of %v: %s", l, s)
			}
			if less := slices.Concat(l[:i], l[i+1:]); len(less) > 0 && len(join(t, less)) > len(s) {
				t.Fatalf("Join of %v: %s, of %v: %s", l, s, less, join(t, less))
			}
		}
		if together := strings.Join(l, ""); len(s) > len(together) {
			t.Fatalf("Join of %v: %s", l, s)
		}
	}
}

// P8.12: pieces of the borders make no difference, wherever they are; nor does the order (M5).
func TestJointRowRemains(t *testing.T) {
	for number, l := range joins() {
		s := join(t, l)
		next := chance(number)
		other := slices.Clone(l)
		slices.Reverse(other)
		if got := join(t, other); got != s {
			t.Fatalf("Join of %v: %s, of %v: %s", l, s, other, got)
		}
		for len(other) < repeat.MaxJoined {
			border := other[next(len(other))]
			from := next(len(border))
			piece := border[from : from+1+next(len(border)-from)]
			other = slices.Insert(other, next(len(other)+1), piece)
			if got := join(t, other); got != s {
				t.Fatalf("Join of %v: %s, of %v: %s", l, s, other, got)
			}
		}
	}
}

// P8.13, M5: borders that are turned around.
func TestTurned(t *testing.T) {
	for _, border := range borders() {
		checkAlike(t, border, turned(border))
	}
	for _, l := range joins() {
		var other []string
		for _, border := range l {
			other = append(other, turned(border))
		}
		if a, b := join(t, l), join(t, other); len(a) != len(b) {
			t.Fatalf("Join of %v: %s, of %v: %s", l, a, other, b)
		}
	}
}

// P8.13, M5: other figures.
func TestExchanged(t *testing.T) {
	for _, border := range borders() {
		for _, by := range list(1, 13, 25, -1, -12, -25) {
			checkAlike(t, border, exchanged(border, by))
		}
	}
	for _, l := range joins() {
		for _, by := range list(3, -26) {
			var other []string
			for _, border := range l {
				other = append(other, exchanged(border, by))
			}
			if a, b := join(t, l), join(t, other); len(a) != len(b) {
				t.Fatalf("Join of %v: %s, of %v: %s", l, a, other, b)
			}
		}
	}
}

// checkAlike checks that two borders have the same periods, exponents and covers.
func checkAlike(t *testing.T, border, other string) {
	t.Helper()
	_, n := root(t, border)
	_, m := root(t, other)
	if !slices.Equal(periods(t, border), periods(t, other)) || !slices.Equal(covers(t, border), covers(t, other)) || n != m {
		t.Fatalf("%s and %s: Periods %v and %v, Covers %v and %v, exponents %d and %d", border, other, periods(t, border), periods(t, other), covers(t, border), covers(t, other), n, m)
	}
}
