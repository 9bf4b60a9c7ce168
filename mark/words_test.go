package mark_test

import (
	"slices"
	"testing"

	"tusche/api"
	"tusche/mark"
)

// P9.1: by all pairs of customers.
func TestDistance(t *testing.T) {
	for _, c := range codes() {
		n, e := mark.Distance(c)
		if len(c.Words) == 1 {
			if n != 0 || e != api.ErrLost {
				t.Fatalf("Distance of %v: %d %d", c, n, e)
			}
			continue
		}
		var all []int
		for i, w := range c.Words {
			for _, other := range c.Words[i+1:] {
				all = append(all, distanceOf(w, other))
			}
		}
		if n != slices.Min(all) || e != api.OK {
			t.Fatalf("Distance of %v: %d %d, want %d", c, n, e, slices.Min(all))
		}
	}
}

// P9.1: equal words, words that differ everywhere, and pairs of any two customers.
func TestDistanceEdges(t *testing.T) {
	for _, x := range []struct {
		c    mark.Code
		want int
	}{
		{code(2, "0", "0"), 0},
		{code(2, "0", "1"), 1},
		{code(4, "00000000", "33333333"), 8},
		{code(4, "01230123", "12301230", "23012301", "30123012"), 8},
		{code(2, "11111111", "00000000", "11111110"), 1},
		{code(2, "00000001", "11111110", "00000001"), 0},
		{code(2, "0000", "0011", "1101"), 2},
		{code(3, "000", "111", "112", "222"), 1},
	} {
		if n := distance(t, x.c); n != x.want {
			t.Errorf("Distance of %v: %d, want %d", x.c, n, x.want)
		}
	}
}

// P9.2: by the definition.
func TestMakes(t *testing.T) {
	for _, c := range codes() {
		for _, coalition := range everyCoalition(c, 3) {
			for _, w := range wordsFor(c) {
				want := api.ErrProof
				if canMake(c, coalition, w) {
					want = api.OK
				}
				if e := mark.Makes(c, coalition, w); e != want {
					t.Fatalf("Makes of %v: %v, %v: %d, want %d", c, coalition, w, e, want)
				}
			}
		}
	}
}

// P9.2: each place counts, also the last one, and a mark only where it is.
func TestMakesEdges(t *testing.T) {
	all := code(4, "00000000", "11111111", "22222222", "33333333", "01230123", "00000001", "00000002", "00000003", "01230123", "32103210")
	for _, x := range []struct {
		c         mark.Code
		coalition []int
		word      string
		want      api.Errno
	}{
		{all, list(0, 1, 2, 3, 4, 5, 6, 7, 8, 9), "32101230", api.OK},
		{all, list(0, 1, 2, 3), "01232103", api.OK},
		{all, list(0, 1, 2), "01201203", api.ErrProof},
		{all, list(0, 5, 6), "00000003", api.ErrProof},
		{all, list(0, 5, 6, 7), "00000003", api.OK},
		{all, list(9), "32103210", api.OK},
		{all, list(9), "32103211", api.ErrProof},
		{code(2, "01"), list(0), "01", api.OK},
		{code(2, "01"), list(0), "10", api.ErrProof},
		{code(2, "01", "10"), list(0, 1), "11", api.OK},
		{code(3, "02", "01"), list(0, 1), "12", api.ErrProof}, // the mark is at the other place
		{code(2, "0", "1"), list(1), "0", api.ErrProof},
	} {
		if e := mark.Makes(x.c, x.coalition, word(x.word)); e != x.want {
			t.Errorf("Makes of %v: %v, %s: %d, want %d", x.c, x.coalition, x.word, e, x.want)
		}
	}
}

// P9.2, M2: by all copies.
func TestCopies(t *testing.T) {
	for _, c := range smallCodes() {
		for _, coalition := range everyCoalition(c, mark.MaxCustomers) {
			want := 0
			for _, w := range everyWord(c.Marks, places(c)) {
				if canMake(c, coalition, w) {
					want++
				}
			}
			if n := copies(t, c, coalition); n != want {
				t.Fatalf("Copies of %v: %v: %d, want %d", c, coalition, n, want)
			}
		}
	}
}

// P9.2: the most copies, and equal words.
func TestCopiesEdges(t *testing.T) {
	same := mark.Code{Marks: 4, Words: slices.Repeat(lists(word("01230123")), 10)}
	for _, x := range []struct {
		c         mark.Code
		coalition []int
		want      int
	}{
		{code(4, "00000000", "11111111", "22222222", "33333333"), list(0, 1, 2, 3), 65536},
		{code(4, "00000000", "11111111", "22222222", "33333333"), list(0, 2, 3), 6561},
		{code(4, "00000000", "11111111", "22222222", "33333333"), list(1, 3), 256},
		{code(4, "00000000", "11111111", "22222222", "33333333"), list(3), 1},
		{same, list(0, 1, 2, 3, 4, 5, 6, 7, 8, 9), 1},
		{same, list(9), 1},
		{code(4, "3", "2", "2", "0"), list(0, 1, 2, 3), 3},
		{code(4, "3", "2", "2", "0"), list(0, 1, 2), 2},
		{code(4, "0123", "0132", "0222", "0301"), list(0, 1, 2, 3), 1 * 3 * 3 * 3},
	} {
		if n := copies(t, x.c, x.coalition); n != x.want {
			t.Errorf("Copies of %v: %v: %d, want %d", x.c, x.coalition, n, x.want)
		}
	}
}

// P9.4: by the distances of all customers.
func TestNearest(t *testing.T) {
	for _, c := range codes() {
		for _, w := range wordsFor(c) {
			var want []int
			for customer, other := range c.Words {
				if !slices.ContainsFunc(c.Words, func(third []int) bool { return distanceOf(third, w) < distanceOf(other, w) }) {
					want = append(want, customer)
				}
			}
			if l := nearest(t, c, w); !slices.Equal(l, want) {
				t.Fatalf("Nearest of %v: %v: %v, want %v", c, w, l, want)
			}
		}
	}
}

// P9.4: words that nobody can make have nearest customers, too.
func TestNearestEdges(t *testing.T) {
	for _, x := range []struct {
		c    mark.Code
		word string
		want []int
	}{
		{code(4, "00000000"), "33333333", list(0)},
		{code(4, "00000000", "11111111", "22222222"), "33333333", list(0, 1, 2)},
		{code(4, "00000000", "11111111", "22222222"), "33333331", list(1)},
		{code(2, "0", "1", "0", "1", "0", "1", "0", "1", "0", "1"), "1", list(1, 3, 5, 7, 9)},
		{code(2, "0", "0", "0", "0", "0", "0", "0", "0", "0", "0"), "1", list(0, 1, 2, 3, 4, 5, 6, 7, 8, 9)},
		{exampleD(), "01", list(1)},
		{exampleC(), "012", list(0, 1, 2)},
		{exampleC(), "220", list(2)},
		{triangle(), "111", list(0, 1, 2)},
		{triangle(), "000", list(0, 1, 2)},
	} {
		if l := nearest(t, x.c, word(x.word)); !slices.Equal(l, x.want) {
			t.Errorf("Nearest of %v: %s: %v, want %v", x.c, x.word, l, x.want)
		}
	}
}
