package mark_test

import (
	"math"
	"slices"
	"testing"

	"tusche/api"
	"tusche/mark"
)

// bad is a code with an error.
type bad struct {
	code mark.Code
	want api.Errno
}

// badCodes are codes that are not valid, with their errors.
func badCodes() []bad {
	many := slices.Repeat(lists(word("00")), 11)
	long := word("000000000")
	all := []bad{
		{mark.Code{}, api.ErrBounds},
		{mark.Code{Marks: 2}, api.ErrEmpty},
		{mark.Code{Marks: 2, Words: lists()}, api.ErrEmpty},
		{mark.Code{Marks: 5}, api.ErrBounds},              // before that there is no word
		{mark.Code{Marks: 1, Words: many}, api.ErrBounds}, // before that there are too many
		{mark.Code{Marks: 2, Words: many}, api.ErrMany},
		{mark.Code{Marks: 2, Words: make([][]int, 11)}, api.ErrMany}, // before their sizes
		{mark.Code{Marks: 2, Words: slices.Repeat(lists(word("9")), 11)}, api.ErrMany},
		{mark.Code{Marks: 2, Words: make([][]int, 5000)}, api.ErrMany},
		{mark.Code{Marks: 2, Words: lists(nil)}, api.ErrSize},
		{mark.Code{Marks: 2, Words: lists(list())}, api.ErrSize},
		{mark.Code{Marks: 2, Words: lists(nil, nil)}, api.ErrSize},
		{mark.Code{Marks: 2, Words: lists(long)}, api.ErrSize},
		{mark.Code{Marks: 2, Words: lists(long, long)}, api.ErrSize},
		{mark.Code{Marks: 2, Words: lists(make([]int, 5000))}, api.ErrSize},
		{code(2, "00", "0"), api.ErrSize},
		{code(2, "0", "00"), api.ErrSize},
		{code(2, "00", "01", ""), api.ErrSize},
		{code(2, "00000000", "000000000"), api.ErrSize},
		{code(2, "22", "0"), api.ErrSize}, // before the marks
		{code(2, "02", "01", "000"), api.ErrSize},
		{code(2, "222222222"), api.ErrSize},
		{code(2, "02"), api.ErrBounds},
		{code(2, "2"), api.ErrBounds},
		{code(3, "00", "13"), api.ErrBounds},
		{code(4, "33333333", "00000004"), api.ErrBounds},
		{code(2, "0", "1", "0", "1", "0", "1", "0", "1", "0", "2"), api.ErrBounds},
	}
	for _, marks := range list(0, 1, -1, 5, math.MinInt, math.MaxInt) {
		all = append(all, bad{mark.Code{Marks: marks, Words: lists(word("00"), word("01"))}, api.ErrBounds})
	}
	for _, m := range list(-1, 3, 4, 63, 64, math.MinInt, math.MaxInt) {
		all = append(all, bad{mark.Code{Marks: 3, Words: lists(list(0, m), list(0, 0))}, api.ErrBounds}, bad{mark.Code{Marks: 3, Words: lists(list(0, 0), list(m, 0))}, api.ErrBounds})
	}
	return all
}

// P9.1 to P9.6: all functions return the error of Check.
func TestBadCodes(t *testing.T) {
	for i, x := range badCodes() {
		for _, q := range []question{{code: x.code}, {code: x.code, coalition: list(0), word: word("00"), size: 2, doubt: mark.Doubt{Copy: word("00"), Coalitions: lists(list(0))}}} {
			a := ask(q)
			for j, e := range a.errors {
				if e != x.want {
					t.Errorf("%d: function %d of %v: %d, want %d", i, j, x.code, e, x.want)
				}
			}
			a.checkNothing(t, q)
		}
	}
}

// P9.1: the smallest and the greatest codes, and all numbers of marks.
func TestCheckEdges(t *testing.T) {
	for _, c := range append(codes(), code(2, "0"), code(4, "3"), code(4, "33333333"), mark.Code{Marks: 4, Words: slices.Repeat(lists(word("01230123")), 10)}) {
		if e := mark.Check(c); e != api.OK {
			t.Errorf("Check of %v: %d", c, e)
		}
	}
}

// P9.2 to P9.6: the errors of a word, whose size comes before its marks.
func TestBadWords(t *testing.T) {
	c := exampleC()
	for _, x := range []struct {
		word []int
		want api.Errno
	}{
		{nil, api.ErrSize}, {list(), api.ErrSize}, {word("00"), api.ErrSize}, {word("0000"), api.ErrSize}, {word("3333"), api.ErrSize}, {word("33"), api.ErrSize}, {make([]int, 5000), api.ErrSize},
		{word("300"), api.ErrBounds}, {word("003"), api.ErrBounds}, {word("040"), api.ErrBounds}, {list(0, -1, 0), api.ErrBounds}, {list(0, 0, math.MinInt), api.ErrBounds}, {list(math.MaxInt, 0, 0), api.ErrBounds}, {list(64, 0, 0), api.ErrBounds},
	} {
		q := question{code: c, coalition: list(0, 1), word: x.word, size: 1, doubt: mark.Doubt{Copy: x.word, Coalitions: lists(list(0), list(1))}}
		a := ask(q)
		if want := [...]api.Errno{0, 0, x.want, 0, x.want, x.want, x.want, x.want, api.ErrNone, api.ErrLost, x.want}; a.errors != want {
			t.Errorf("%v: %v, want %v", x.word, a.errors, want)
		}
		a.checkNothing(t, q)
	}
}

// P9.3 to P9.5: sizes that coalitions cannot have. They may be greater than the number of customers.
func TestSizes(t *testing.T) {
	c := exampleC()
	for _, size := range list(0, -1, 11, math.MinInt, math.MaxInt) {
		q := question{code: c, coalition: list(0), word: word("000"), size: size, doubt: mark.Doubt{Copy: word("000"), Coalitions: lists(list(0), list(0))}}
		a := ask(q)
		if want := [...]api.Errno{0, 0, 0, 0, 0, api.ErrBounds, api.ErrBounds, 0, api.ErrBounds, api.ErrLost, api.ErrClash}; a.errors != want {
			t.Errorf("%d: %v, want %v", size, a.errors, want)
		}
		a.checkNothing(t, q)
	}
	for size := 1; size <= 10; size++ {
		if l := lean(t, c, word("000"), size); !equalLists(l, lists(list(0))) {
			t.Errorf("Lean of C: 0 0 0, %d: %v", size, l)
		}
		if l := guilty(t, c, word("000"), size); !slices.Equal(l, list(0)) {
			t.Errorf("Guilty of C: 0 0 0, %d: %v", size, l)
		}
		if l, n, e := mark.Frames(c, size); len(l) != 0 || n != 0 || e != api.ErrNone {
			t.Errorf("Frames of C, %d: %v %d %d", size, l, n, e)
		}
	}
}

// badCoalition is a coalition of the customers 0, 1 and 2 with an error.
type badCoalition struct {
	coalition []int
	want      api.Errno
}

// badCoalitions are coalitions that are not valid, with their errors.
func badCoalitions() []badCoalition {
	return []badCoalition{
		{nil, api.ErrEmpty}, {list(), api.ErrEmpty},
		{list(3), api.ErrNone}, {list(-1), api.ErrNone}, {list(math.MinInt), api.ErrNone}, {list(math.MaxInt), api.ErrNone}, {list(0, 3), api.ErrNone}, {list(0, 1, 2, 3), api.ErrNone}, {list(2, -1), api.ErrNone},
		{list(0, 0), api.ErrOrder}, {list(1, 0), api.ErrOrder}, {list(0, 2, 1), api.ErrOrder}, {list(0, 1, 2, 2), api.ErrOrder}, {list(0, 2, 2), api.ErrOrder}, {make([]int, 5000), api.ErrOrder},
		{list(3, 1), api.ErrNone}, {list(1, 1, 3), api.ErrOrder}, {list(0, 3, 3), api.ErrNone}, {list(2, 1, -1), api.ErrOrder}, {list(10, 10), api.ErrNone}, // the first one with an error decides
	}
}

// P9.2: the errors of a coalition, which come before those of the word.
func TestBadCoalitions(t *testing.T) {
	for _, x := range badCoalitions() {
		for _, w := range lists(word("000"), word("012"), word("00"), word("333"), nil) {
			if e := mark.Makes(exampleC(), x.coalition, w); e != x.want {
				t.Errorf("Makes of C: %v, %v: %d, want %d", x.coalition, w, e, x.want)
			}
		}
		if n, e := mark.Copies(exampleC(), x.coalition); n != 0 || e != x.want {
			t.Errorf("Copies of C: %v: %d %d, want %d", x.coalition, n, e, x.want)
		}
	}
}
