package letters_test

import (
	"math"
	"slices"
	"strings"
	"testing"

	"tusche/api"
	"tusche/letters"
)

// bad is an office with an error.
type bad struct {
	o    letters.Office
	want api.Errno
}

// of returns an office.
func of(kinds int, free ...[2]int) letters.Office {
	return letters.Office{Kinds: kinds, Free: free}
}

// badOffices are offices that are not valid, with their errors.
func badOffices() []bad {
	all := []bad{
		{of(0, make([][2]int, 16)...), api.ErrSize}, // before that there are too many pairs
		{of(7, pair("ab")), api.ErrSize},
		{of(0, [2]int{-1, -1}), api.ErrSize},
		{of(6, append(allPairs(6), pair("ba"))...), api.ErrMany}, // before that a pair is there again
		{of(6, make([][2]int, 16)...), api.ErrMany},
		{of(1, make([][2]int, 5000)...), api.ErrMany},
		{of(2, pair("aa")), api.ErrSame},
		{of(2, pair("bb")), api.ErrSame},
		{of(6, pair("ab"), pair("ff")), api.ErrSame},
		{of(1, pair("aa")), api.ErrSame},
		{of(1, make([][2]int, 15)...), api.ErrSame},
		{of(6, slices.Repeat([][2]int{pair("ef")}, 15)...), api.ErrAgain},
		{of(2, pair("ab"), pair("ab")), api.ErrAgain},
		{of(2, pair("ab"), pair("ba")), api.ErrAgain},
		{of(2, pair("ba"), pair("ab")), api.ErrAgain},
		{of(3, pair("ab"), pair("bc"), pair("ca"), pair("cb")), api.ErrAgain},
		{of(6, append(allPairs(6)[:14], pair("ba"))...), api.ErrAgain},
		{of(1, pair("ab")), api.ErrNone},
		{of(2, pair("cc")), api.ErrNone}, // before that they are equal
		{of(2, [2]int{-1, -1}), api.ErrNone},
		{of(2, pair("ac"), pair("ac")), api.ErrNone},
		{of(2, pair("aa"), pair("ac")), api.ErrSame}, // the first pair with an error
		{of(2, pair("ac"), pair("aa")), api.ErrNone},
		{of(2, pair("ab"), pair("ba"), pair("aa"), pair("cc")), api.ErrAgain},
		{of(2, pair("ab"), pair("aa"), pair("ba")), api.ErrSame},
		{of(2, pair("aa"), pair("aa")), api.ErrSame},
	}
	for _, kinds := range list(0, -1, 7, 26, math.MinInt, math.MaxInt) {
		all = append(all, bad{of(kinds), api.ErrSize})
	}
	for _, kind := range list(-1, 4, 5, 6, 63, 64, math.MinInt, math.MaxInt) {
		all = append(all, bad{of(4, [2]int{0, kind}), api.ErrNone}, bad{of(4, pair("ab"), [2]int{kind, 3}), api.ErrNone})
	}
	return all
}

// P10.1 to P10.6: all functions return the error of Check, before that of a log.
func TestBadOffices(t *testing.T) {
	for i, x := range badOffices() {
		for _, q := range []question{{o: x.o}, {o: x.o, a: "ab", b: "ba", i: 0, k: 1, swaps: list(0)}, {o: x.o, a: "?", b: strings.Repeat("a", 15), i: -1, k: -1, swaps: list(-1)}} {
			a := ask(q)
			for j, e := range a.errors {
				if e != x.want {
					t.Errorf("%d: function %d of %v: %d, want %d", i, j, x.o, e, x.want)
				}
			}
			a.checkNothing(t, q)
		}
	}
}

// P10.1: the smallest and the greatest offices, and any order of the pairs and their kinds.
func TestCheckEdges(t *testing.T) {
	turned := allPairs(6)
	slices.Reverse(turned)
	for i, p := range turned {
		turned[i] = [2]int{p[1], p[0]}
	}
	all := []letters.Office{of(1), of(6), of(1, [][2]int{}...), allFree(6), of(6, turned...), of(2, pair("ba")), exampleO()}
	for _, x := range ones() {
		all = append(all, x.o)
	}
	for _, o := range all {
		if e := letters.Check(o); e != api.OK {
			t.Errorf("Check of %v: %d", o, e)
		}
	}
}

// badLog is a log with an error in an office with three kinds.
type badLog struct {
	log  string
	want api.Errno
}

// badLogs are logs that are not valid, with their errors.
func badLogs() []badLog {
	all := []badLog{
		{strings.Repeat("a", 15), api.ErrLong},
		{strings.Repeat("d", 15), api.ErrLong}, // before the bytes
		{strings.Repeat("\xff", 5000), api.ErrLong},
		{"äääääääc", api.ErrLong}, // bytes, not letters
		{"aaaaaaaaaaaaad", api.ErrForm},
		{"daaaaaaaaaaaaa", api.ErrForm},
		{"ä", api.ErrForm},
	}
	for number := range 256 {
		name := byte(number)
		if name < 'a' || name > 'c' {
			all = append(all, badLog{string([]byte{'a', name, 'b'}), api.ErrForm}, badLog{string([]byte{name}), api.ErrForm})
		}
	}
	return all
}

// P10.1: the errors of logs, in the order of the parameters, before all others.
func TestBadLogs(t *testing.T) {
	o := office(3, "ab")
	for _, x := range badLogs() {
		for _, q := range []question{{o, x.log, "ab", 0, 1, nil}, {o, x.log, x.log, 0, 0, list(-1)}, {o, x.log, "?", -1, -1, list(-1)}, {o, x.log, strings.Repeat("a", 15), 1, 0, nil}} {
			a := ask(q)
			for j, e := range a.errors[1:] {
				if e != x.want {
					t.Errorf("%q: function %d: %d, want %d", q.a, j+1, e, x.want)
				}
			}
			a.checkNothing(t, q)
		}
		for _, first := range []string{"", "abc", "cccccccccccccc"} {
			q := question{o, first, x.log, 0, 1, list(-1)}
			a := ask(q)
			for _, j := range list(1, 2, 3, 4, 9, 10) {
				if a.errors[j] != x.want {
					t.Errorf("%q and %q: function %d: %d, want %d", q.a, q.b, j, a.errors[j], x.want)
				}
			}
			for _, j := range list(0, 5, 6, 7) {
				if a.errors[j] != api.OK {
					t.Errorf("%q: function %d: %d", q.a, j, a.errors[j])
				}
			}
			a.checkNothing(t, q)
		}
	}
}

// P10.1: the names of as many kinds as an office has, and logs of all sizes.
func TestLogEdges(t *testing.T) {
	for kinds := 1; kinds <= letters.MaxKinds; kinds++ {
		for size := range letters.MaxLog + 1 {
			log := strings.Repeat("a", size)
			if size > 0 {
				log = log[1:] + names[kinds-1:kinds]
			}
			if form, e := letters.First(allBound(kinds), log); form != log || e != api.OK {
				t.Errorf("First with %d kinds: %s: %s %d", kinds, log, form, e)
			}
			if size > 0 && kinds > 1 {
				if form, e := letters.First(allBound(kinds-1), log); form != "" || e != api.ErrForm {
					t.Errorf("First with %d kinds: %s: %s %d", kinds-1, log, form, e)
				}
			}
		}
	}
}
