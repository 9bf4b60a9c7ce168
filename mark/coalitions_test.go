package mark_test

import (
	"cmp"
	"slices"
	"testing"

	"tusche/api"
	"tusche/mark"
)

// fewestOf is the chapter's definition.
func fewestOf(c mark.Code, w []int) []int {
	all := makersOf(c, w, mark.MaxCustomers)
	if len(all) == 0 {
		return nil
	}
	return slices.MinFunc(all, func(a, b []int) int { return cmp.Or(cmp.Compare(len(a), len(b)), slices.Compare(a, b)) })
}

// P9.3, M4: by all coalitions.
func TestFewest(t *testing.T) {
	for _, c := range codes() {
		for _, w := range wordsFor(c) {
			want := fewestOf(c, w)
			wantError := api.OK
			if want == nil {
				wantError = api.ErrLost
			}
			if l, e := mark.Fewest(c, w); !slices.Equal(l, want) || e != wantError {
				t.Fatalf("Fewest of %v: %v: %v %d, want %v", c, w, l, e, want)
			}
		}
	}
}

// onceEach is a code whose customers each have the mark 1 at one place, but for the last two, whose words have only 0.
func onceEach() mark.Code {
	return code(2, "10000000", "01000000", "00100000", "00010000", "00001000", "00000100", "00000010", "00000001", "00000000", "00000000")
}

// P9.3: all customers but two, one customer, the first one of several, and nobody.
func TestFewestEdges(t *testing.T) {
	for _, x := range []struct {
		c    mark.Code
		word string
		want []int
		e    api.Errno
	}{
		{onceEach(), "11111111", list(0, 1, 2, 3, 4, 5, 6, 7), api.OK},
		{onceEach(), "00000000", list(8), api.OK},
		{onceEach(), "01100000", list(1, 2), api.OK},
		{code(2, "01", "10", "00", "11", "11", "00"), "11", list(3), api.OK},
		{code(3, "01", "10", "00", "11", "22"), "12", list(1, 4), api.OK},
		{code(3, "01", "10", "00", "21", "12"), "22", list(3, 4), api.OK},
		{code(3, "00", "01", "10"), "02", nil, api.ErrLost},
		{code(3, "00", "01", "10"), "20", nil, api.ErrLost},
		{code(2, "0"), "0", list(0), api.OK},
		{code(2, "0"), "1", nil, api.ErrLost},
		{code(2, "0", "0", "0", "0", "0", "0", "0", "0", "0", "1"), "1", list(9), api.OK},
		{triangle(), "111", list(0, 1), api.OK},
		{triangle(), "000", list(0, 1, 2), api.OK},
	} {
		if l, e := mark.Fewest(x.c, word(x.word)); !slices.Equal(l, x.want) || e != x.e {
			t.Errorf("Fewest of %v: %s: %v %d, want %v %d", x.c, x.word, l, e, x.want, x.e)
		}
	}
}

// P9.3, M3: by all coalitions.
func TestLean(t *testing.T) {
	for _, c := range codes() {
		for i, w := range wordsFor(c) {
			size := 1 + (i+len(c.Words))%mark.MaxCustomers
			want := slices.DeleteFunc(everyCoalition(c, size), func(coalition []int) bool { return !isLean(c, coalition, w) })
			if l := lean(t, c, w, size); !equalLists(l, want) {
				t.Fatalf("Lean of %v: %v, %d: %v, want %v", c, w, size, l, want)
			}
		}
	}
}

// P9.3: all sizes, the order, and words that nobody can make.
func TestLeanEdges(t *testing.T) {
	for _, x := range []struct {
		c    mark.Code
		word string
		size int
		want [][]int
	}{
		{onceEach(), "11111111", 7, nil},
		{onceEach(), "11111111", 8, lists(list(0, 1, 2, 3, 4, 5, 6, 7))},
		{onceEach(), "11111111", 10, lists(list(0, 1, 2, 3, 4, 5, 6, 7))},
		{onceEach(), "11000000", 1, nil},
		{onceEach(), "11000000", 10, lists(list(0, 1))},
		{onceEach(), "10000000", 1, lists(list(0))},
		{code(2, "001", "010", "100", "111"), "000", 2, lists(list(0, 1), list(0, 2), list(1, 2))},
		{code(2, "001", "010", "100", "000"), "111", 3, lists(list(0, 1, 2))},
		{code(2, "001", "010", "100", "111"), "111", 3, lists(list(0, 1, 2), list(3))},
		{code(2, "001", "010", "100", "111"), "111", 2, lists(list(3))},
		{code(2, "11", "01", "10", "00"), "00", 2, lists(list(1, 2), list(3))},
		{code(2, "00", "00", "00"), "00", 3, lists(list(0), list(1), list(2))},
		{code(2, "00", "00", "00"), "01", 3, nil},
		{code(2, "01", "10", "01", "10"), "11", 10, lists(list(0, 1), list(0, 3), list(1, 2), list(2, 3))},
		{triangle(), "111", 3, lists(list(0, 1), list(0, 2), list(1, 2))},
		{triangle(), "000", 2, nil},
		{triangle(), "000", 3, lists(list(0, 1, 2))},
	} {
		if l := lean(t, x.c, word(x.word), x.size); !equalLists(l, x.want) {
			t.Errorf("Lean of %v: %s, %d: %v, want %v", x.c, x.word, x.size, l, x.want)
		}
	}
}

// P9.4, M3: by all coalitions.
func TestGuilty(t *testing.T) {
	for _, c := range codes() {
		for i, w := range wordsFor(c) {
			size := 1 + (i+len(c.Words))%mark.MaxCustomers
			all := makersOf(c, w, size)
			l, e := mark.Guilty(c, w, size)
			if len(all) == 0 {
				if len(l) != 0 || e != api.ErrLost {
					t.Fatalf("Guilty of %v: %v, %d: %v %d", c, w, size, l, e)
				}
				continue
			}
			if want := inAll(c, all); !slices.Equal(l, want) || e != api.OK {
				t.Fatalf("Guilty of %v: %v, %d: %v %d, want %v", c, w, size, l, e, want)
			}
		}
	}
}

// P9.4: everybody, nobody, and some of several.
func TestGuiltyEdges(t *testing.T) {
	for _, x := range []struct {
		c    mark.Code
		word string
		size int
		want []int
		e    api.Errno
	}{
		{onceEach(), "11111111", 7, nil, api.ErrLost},
		{onceEach(), "11111111", 8, list(0, 1, 2, 3, 4, 5, 6, 7), api.OK},
		{onceEach(), "11111111", 10, list(0, 1, 2, 3, 4, 5, 6, 7), api.OK},
		{onceEach(), "00000000", 1, nil, api.OK}, // two have the same word
		{onceEach(), "00000011", 2, list(6, 7), api.OK},
		{code(2, "0"), "0", 10, list(0), api.OK},
		{code(2, "0"), "1", 10, nil, api.ErrLost},
		{code(2, "110", "001", "001", "001"), "111", 2, list(0), api.OK},
		{code(2, "001", "001", "001", "110"), "111", 2, list(3), api.OK},
		{code(2, "110", "001", "011", "101"), "111", 1, nil, api.ErrLost},
		{code(2, "110", "001", "011", "101"), "111", 2, nil, api.OK},
		{triangle(), "111", 2, nil, api.OK},
		{triangle(), "000", 3, list(0, 1, 2), api.OK},
		{triangle(), "000", 2, nil, api.ErrLost},
		{triangle(), "011", 10, list(2), api.OK},
	} {
		if l, e := mark.Guilty(x.c, word(x.word), x.size); !slices.Equal(l, x.want) || e != x.e {
			t.Errorf("Guilty of %v: %s, %d: %v %d, want %v %d", x.c, x.word, x.size, l, e, x.want, x.e)
		}
	}
}

// framesOf is the chapter's definition.
func framesOf(c mark.Code, size int) ([]int, int) {
	var coalition []int
	framed := 0
	for _, other := range everyCoalition(c, size) {
		if len(coalition) > 0 && len(coalition) <= len(other) {
			continue
		}
		for customer, w := range c.Words {
			if !slices.Contains(other, customer) && canMake(c, other, w) {
				coalition, framed = other, customer
				break
			}
		}
	}
	return coalition, framed
}

// P9.5, M4: by all coalitions and customers.
func TestFrames(t *testing.T) {
	for i, c := range codes() {
		for _, size := range list(1+i%3, 1+i%mark.MaxCustomers) {
			want, framed := framesOf(c, size)
			wantError := api.OK
			if len(want) == 0 {
				wantError = api.ErrNone
			}
			if l, n, e := mark.Frames(c, size); !slices.Equal(l, want) || n != framed || e != wantError {
				t.Fatalf("Frames of %v, %d: %v %d %d, want %v %d", c, size, l, n, e, want, framed)
			}
		}
	}
}

// P9.5: one who frames, many who must, the first ones, and the smallest customer whom they frame.
func TestFramesEdges(t *testing.T) {
	eight := onceEach()
	eight.Words[8] = word("11111111")
	eight.Words = eight.Words[:9]
	for _, x := range []struct {
		c         mark.Code
		size      int
		coalition []int
		customer  int
		e         api.Errno
	}{
		{code(2, "0"), 10, nil, 0, api.ErrNone},
		{code(2, "0", "0"), 1, list(0), 1, api.OK},
		{code(2, "0", "1"), 10, nil, 0, api.ErrNone},
		{code(2, "0", "1", "1", "1"), 10, list(1), 2, api.OK},
		{code(2, "0", "1", "0", "1"), 10, list(0), 2, api.OK},
		{onceEach(), 1, list(8), 9, api.OK},
		{eight, 1, nil, 0, api.ErrNone},
		{eight, 2, nil, 0, api.ErrNone},
		{eight, 3, list(0, 1, 8), 2, api.OK}, // they have both marks at all places
		{triangle(), 10, nil, 0, api.ErrNone},
		{code(2, "110", "101", "011", "111"), 1, nil, 0, api.ErrNone},
		{code(2, "110", "101", "011", "111"), 2, list(0, 1), 3, api.OK},
		{code(2, "111", "011", "101", "110"), 2, list(1, 2), 0, api.OK},
		{code(3, "00", "11", "22", "01"), 2, list(0, 1), 3, api.OK},
		{code(4, "000", "111", "222", "012"), 2, nil, 0, api.ErrNone},
		{code(4, "000", "111", "222", "012"), 3, list(0, 1, 2), 3, api.OK},
		{code(4, "012", "000", "111", "222"), 3, list(1, 2, 3), 0, api.OK},
		{exampleD(), 1, nil, 0, api.ErrNone},
	} {
		if l, n, e := mark.Frames(x.c, x.size); !slices.Equal(l, x.coalition) || n != x.customer || e != x.e {
			t.Errorf("Frames of %v, %d: %v %d %d, want %v %d %d", x.c, x.size, l, n, e, x.coalition, x.customer, x.e)
		}
	}
}
