package mark_test

import (
	"slices"
	"testing"

	"tusche/api"
	"tusche/mark"
)

// isDoubt is the chapter's definition.
func isDoubt(c mark.Code, d mark.Doubt) bool {
	for _, coalition := range d.Coalitions {
		if len(coalition) == 0 || len(coalition) > 2 || !canMake(c, coalition, d.Copy) {
			return false
		}
	}
	return len(inAll(c, d.Coalitions)) == 0
}

// P9.6, M4: there is a doubt just if the code does not convict, by all copies that two customers can make.
func TestDoubtful(t *testing.T) {
	sure := 0
	for _, c := range codes() {
		d, e := mark.Doubtful(c)
		if convicts(c) {
			sure++
			if !isNone(d) || e != api.ErrLost {
				t.Fatalf("Doubtful of %v: %v %d", c, d, e)
			}
			continue
		}
		if e != api.OK || len(d.Copy) != places(c) || !isDoubt(c, d) {
			t.Fatalf("Doubtful of %v: %v %d", c, d, e)
		}
		if e := mark.Verify(c, d); e != api.OK {
			t.Fatalf("Verify of %v: %v: %d", c, d, e)
		}
	}
	if sure < 100 {
		t.Errorf("%d", sure)
	}
}

// P9.6: codes with and without doubts.
func TestDoubtfulEdges(t *testing.T) {
	for _, x := range []struct {
		c    mark.Code
		want api.Errno
	}{
		{code(2, "0"), api.ErrLost},
		{code(2, "0", "0"), api.OK}, // one alone, or the other one
		{code(2, "0", "1"), api.ErrLost},
		{code(2, "0", "1", "1"), api.OK},
		{code(3, "0", "1", "2"), api.ErrLost},
		{code(4, "0", "1", "2", "3"), api.ErrLost},
		{code(2, "00", "11"), api.ErrLost},
		{code(2, "00", "11", "01"), api.OK}, // one alone, or two others
		{code(4, "00", "11", "22", "33"), api.ErrLost},
		{code(4, "00", "11", "02", "12"), api.OK}, // two, or two others
		{exampleD(), api.OK},
		{triangle(), api.OK},
	} {
		d, e := mark.Doubtful(x.c)
		if e != x.want || (e == api.OK) != (mark.Verify(x.c, d) == api.OK) {
			t.Errorf("Doubtful of %v: %v %d, want %d", x.c, d, e, x.want)
		}
	}
}

// P9.6, P9.8: three pairs of three customers, where no two coalitions do it, also if there are others.
func TestDoubtOfThree(t *testing.T) {
	for _, x := range []struct {
		c          mark.Code
		copy       string
		coalitions [][]int
	}{
		{triangle(), "111", lists(list(0, 1), list(0, 2), list(1, 2))},
		{code(3, "200", "020", "002"), "000", lists(list(0, 1), list(0, 2), list(1, 2))},
		{code(3, "222", "110", "101", "011"), "111", lists(list(1, 2), list(1, 3), list(2, 3))},
		{code(4, "2220", "1100", "1010", "3333", "0110"), "1110", lists(list(1, 2), list(1, 4), list(2, 4))},
	} {
		d, e := mark.Doubtful(x.c)
		if !slices.Equal(d.Copy, word(x.copy)) || !equalLists(d.Coalitions, x.coalitions) || e != api.OK {
			t.Errorf("Doubtful of %v: %v %d, want %s %v", x.c, d, e, x.copy, x.coalitions)
		}
	}
}

// P9.6: doubts that are no doubts, and the order of the errors. D has the words 0 0, 0 1, 1 0 and 1 1.
func TestVerifyEdges(t *testing.T) {
	one, others, both := list(1), list(0, 3), list(1, 3)
	for _, x := range []struct {
		word       []int
		coalitions [][]int
		want       api.Errno
	}{
		{word("01"), lists(one, others), api.OK},
		{word("01"), lists(others, one), api.OK},
		{word("01"), lists(both, one, others), api.OK},
		{word("01"), lists(one, one, one, one, one, one, one, one, one, others), api.OK},
		{word("11"), lists(list(3), list(1, 2)), api.OK},
		{word("0"), nil, api.ErrSize},
		{word("010"), lists(list(9)), api.ErrSize},
		{nil, lists(one, others), api.ErrSize},
		{word("02"), nil, api.ErrBounds},
		{word("20"), make([][]int, 11), api.ErrBounds},
		{word("01"), nil, api.ErrEmpty},
		{word("01"), lists(), api.ErrEmpty},
		{word("01"), make([][]int, 11), api.ErrMany},
		{word("01"), append(slices.Repeat(lists(one), 10), others), api.ErrMany},
		{word("01"), append(slices.Repeat(lists(one), 9), others), api.OK},
		{word("01"), make([][]int, 10), api.ErrEmpty},
		{word("01"), lists(one, others, list()), api.ErrEmpty},
		{word("01"), lists(one, list(4)), api.ErrNone},
		{word("01"), lists(one, list(-1)), api.ErrNone},
		{word("01"), lists(one, list(3, 0)), api.ErrOrder},
		{word("01"), lists(one, list(0, 0)), api.ErrOrder},
		{word("01"), lists(one, list(0, 1, 3)), api.ErrMany},
		{word("01"), lists(list(0, 1, 2, 3), others), api.ErrMany},
		{word("11"), lists(list(3), list(0, 1, 2)), api.ErrMany}, // it could make it
		{word("00"), lists(list(0), list(1, 2, 3)), api.ErrMany},
		{word("01"), lists(one, list(0, 1, 4)), api.ErrNone}, // before that there are three
		{word("01"), lists(one, list(0, 3, 3)), api.ErrOrder},
		{word("01"), lists(one, list(0)), api.ErrProof},
		{word("01"), lists(list(0, 2), one), api.ErrProof},
		{word("01"), lists(list(0, 2), list(4)), api.ErrProof}, // the first one with an error decides
		{word("01"), lists(list(4), list(0, 2)), api.ErrNone},
		{word("01"), lists(list(0, 2), list(0, 1, 2)), api.ErrProof},
		{word("01"), lists(list(0, 1, 2), list(0, 2)), api.ErrMany},
		{word("01"), lists(one, both, list(0)), api.ErrProof}, // before that one is a member of all the others
		{word("01"), lists(one), api.ErrClash},
		{word("01"), lists(others), api.ErrClash},
		{word("01"), lists(one, one), api.ErrClash},
		{word("01"), lists(one, both), api.ErrClash},
		{word("01"), lists(both, others), api.ErrClash},
		{word("01"), slices.Repeat(lists(both), 10), api.ErrClash},
	} {
		if e := mark.Verify(exampleD(), mark.Doubt{Copy: x.word, Coalitions: x.coalitions}); e != x.want {
			t.Errorf("Verify of D: %v, %v: %d, want %d", x.word, x.coalitions, e, x.want)
		}
	}
}

// P9.6: a coalition of three that cannot make the copy.
func TestVerifyThree(t *testing.T) {
	c := code(3, "00", "11", "22", "01")
	for _, x := range []struct {
		coalitions [][]int
		want       api.Errno
	}{
		{lists(list(0, 1, 3), list(2)), api.ErrMany},
		{lists(list(2), list(0, 1, 3)), api.ErrMany},
		{lists(list(0, 1), list(0, 1, 3)), api.ErrProof},
		{lists(list(0, 1, 3), list(0, 1)), api.ErrMany},
		{lists(list(0, 1, 3, 4)), api.ErrNone},
	} {
		if e := mark.Verify(c, mark.Doubt{Copy: word("22"), Coalitions: x.coalitions}); e != x.want {
			t.Errorf("Verify of %v: %v: %d, want %d", c, x.coalitions, e, x.want)
		}
	}
}

// P9.6: three pairs, of which each two have a member in common, and pairs that all have one.
func TestVerifyPairs(t *testing.T) {
	c := code(2, "110", "101", "011", "111")
	for _, x := range []struct {
		coalitions [][]int
		want       api.Errno
	}{
		{lists(list(0, 1), list(0, 2), list(1, 2)), api.OK},
		{lists(list(1, 2), list(0, 2), list(0, 1)), api.OK},
		{lists(list(0, 1), list(0, 2)), api.ErrClash},
		{lists(list(0, 1), list(1, 2)), api.ErrClash},
		{lists(list(0, 1), list(0, 2), list(0, 3)), api.ErrClash},
		{lists(list(0, 3), list(1, 3), list(2, 3), list(3)), api.ErrClash},
		{lists(list(0, 3), list(1, 3), list(2, 3), list(0, 1)), api.OK},
	} {
		if e := mark.Verify(c, mark.Doubt{Copy: word("111"), Coalitions: x.coalitions}); e != x.want {
			t.Errorf("Verify of %v: %v: %d, want %d", c, x.coalitions, e, x.want)
		}
	}
}

// P9.6, M4: all lists of up to three coalitions of up to three members, and all copies, of some codes.
func TestVerify(t *testing.T) {
	for _, c := range []mark.Code{exampleC(), exampleD(), triangle(), code(2, "0"), code(2, "0", "0"), code(2, "01", "10", "11"), code(3, "00", "11", "22", "01")} {
		coalitions := everyCoalition(c, 3)
		for _, w := range everyWord(c.Marks, places(c)) {
			for i, one := range coalitions {
				for _, other := range coalitions {
					for _, all := range [][][]int{lists(one), lists(one, other), lists(one, other, coalitions[len(coalitions)-1-i]), lists(other, one, other, one)} {
						checkVerify(t, c, mark.Doubt{Copy: w, Coalitions: all})
					}
				}
			}
		}
	}
}

// checkVerify checks what Verify says of coalitions that are valid.
func checkVerify(t *testing.T, c mark.Code, d mark.Doubt) {
	t.Helper()
	want := api.OK
	if len(inAll(c, d.Coalitions)) > 0 {
		want = api.ErrClash
	}
	for _, coalition := range d.Coalitions {
		if len(coalition) > 2 {
			want = api.ErrMany
			break
		}
		if !canMake(c, coalition, d.Copy) {
			want = api.ErrProof
			break
		}
	}
	if e := mark.Verify(c, d); e != want {
		t.Fatalf("Verify of %v: %v: %d, want %d", c, d, e, want)
	}
}
