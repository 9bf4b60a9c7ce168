package cross_test

import (
	"math"
	"slices"
	"testing"

	"tusche/api"
	"tusche/cross"
)

// question is arguments for all functions.
type question struct {
	rule          []int
	shift, width  int
	seen          []int
	most          int
	crosses, size int
}

// answer is everything that the functions return for a question. Its errors come in the order in which the chapter lists the functions.
type answer struct {
	twice, around [2]pair
	common        int
	lists         [6][]int // of Distances, Missing, Locate, Places, Shortest and Roller
	errors        [11]api.Errno
}

func ask(q question) answer {
	var a answer
	a.errors[0] = cross.Check(q.rule)
	a.twice[0], a.twice[1], a.errors[1] = cross.Twice(q.rule)
	a.lists[0], a.errors[2] = cross.Distances(q.rule)
	a.lists[1], a.errors[3] = cross.Missing(q.rule)
	a.common, a.errors[4] = cross.Common(q.rule, q.shift)
	a.lists[2], a.errors[5] = cross.Locate(q.rule, q.width, q.seen)
	a.lists[3], a.errors[6] = cross.Places(q.rule, q.most)
	a.lists[4], a.errors[7] = cross.Shortest(q.crosses)
	a.errors[8] = cross.Best(q.rule)
	a.around[0], a.around[1], a.errors[9] = cross.Around(q.rule, q.size)
	a.lists[5], a.errors[10] = cross.Roller(q.crosses, q.size)
	return a
}

func (a answer) equal(b answer) bool {
	for i, l := range a.lists {
		if !slices.Equal(l, b.lists[i]) {
			return false
		}
	}
	return a.twice == b.twice && a.around == b.around && a.common == b.common && a.errors == b.errors
}

// checkNothing checks that nothing comes with an error (R2).
func (a answer) checkNothing(t *testing.T, q question) {
	t.Helper()
	e := a.errors
	for i, j := range list(2, 3, 5, 6, 7, 10) {
		if e[j] != api.OK && len(a.lists[i]) > 0 {
			t.Errorf("%v: %v", q, a)
		}
	}
	if (e[1] == api.OK) == (a.twice == [2]pair{}) || (e[9] == api.OK) == (a.around == [2]pair{}) || e[4] != api.OK && a.common != 0 {
		t.Errorf("%v: %v", q, a)
	}
	if (e[2] == api.OK) != (len(a.lists[0]) > 0) || (e[7] == api.OK) != (len(a.lists[4]) > 0) || (e[10] == api.OK) != (len(a.lists[5]) > 0) {
		t.Errorf("%v: %v", q, a)
	}
}

// P1, R1, R2: whatever comes, each function ends, and nothing comes with an error.
func TestWhateverComes(t *testing.T) {
	all := [][]int{list(0, 60), list(0, 1, 2, 3, 4, 5, 6, 7), list(0, 1, 4, 9, 15, 22, 32, 34), list(0, 1, 4, 10, 18, 23, 25), list(0, 1, 3), list(39, 40), list(1, 20, 39)}
	for _, x := range badRules() {
		all = append(all, x.rule)
	}
	numbers := list(0, 1, 2, 3, 6, 7, 8, 13, 39, 40, 41, 59, 60, 61, -1, -60, -61, math.MinInt, math.MinInt+1, math.MaxInt, math.MaxInt-1)
	number := func(at int) int { return numbers[at%len(numbers)] }
	for i, rule := range all {
		for k := i % 5; k < 21*20; k += 5 {
			q := question{rule, number(k), number(k / 20), numbers[k%7 : k%7+k/7%5], number(k + i), number(k / 3), number(i + k/5)}
			if k%50 == 0 {
				q.seen = rule
			}
			a := ask(q)
			a.checkNothing(t, q)
			e := a.errors
			if e[0] != e[2] || e[0] != e[3] {
				t.Fatalf("%v: %v", q, e)
			}
			if e[0] == api.OK && (e[1] == api.OK) != (e[6] == api.ErrProof) {
				t.Fatalf("%v: %v", q, e)
			}
		}
	}
}

// R1: of several errors, the first one that is mentioned.
func TestSeveralErrors(t *testing.T) {
	for i, x := range []struct {
		q    question
		want [11]api.Errno
	}{
		{question{nil, 61, 61, list(-1), 61, 1, 1}, [...]api.Errno{1, 1, 1, 1, 1, 1, 1, 4, 1, 1, 4}},
		{question{list(0, 1, 1, 61), -61, -1, list(0, 0), -1, 8, 41}, [...]api.Errno{7, 7, 7, 7, 7, 7, 7, 4, 7, 7, 4}},
		{question{list(0, 1, 2), 61, 61, list(1, 0), 61, 7, 41}, [...]api.Errno{0, 0, 0, 0, 4, 4, 13, 0, 13, 4, 4}},
		{question{list(0, 1, 2), -61, 2, list(1, 1, 3), 0, 7, 2}, [...]api.Errno{0, 0, 0, 0, 4, 7, 13, 0, 13, 4, 4}},
		{question{list(0, 1, 2, 3, 4, 5, 6, 7), 0, 2, list(3, 3), -1, 6, 7}, [...]api.Errno{0, 0, 0, 0, 0, 4, 13, 0, 2, 4, 14}},
		{question{list(0, 1, 4, 9, 15, 22, 32, 34), 60, 60, nil, -1, 6, 34}, [...]api.Errno{0, 5, 0, 0, 0, 0, 2, 0, 2, 4, 14}},
		{question{list(0, 1, 4, 9), 60, 60, list(60), -1, 2, 10}, [...]api.Errno{0, 5, 0, 0, 0, 0, 4, 0, 14, 0, 0}},
	} {
		a := ask(x.q)
		if a.errors != x.want {
			t.Errorf("%d: %v, want %v", i, a.errors, x.want)
		}
		a.checkNothing(t, x.q)
	}
}

// R3: a nil list and one without elements are the same.
func TestNoList(t *testing.T) {
	for _, x := range [][2]question{
		{{}, {rule: list(), seen: list()}},
		{{rule: list(0, 1, 4), crosses: 3, size: 7}, {rule: list(0, 1, 4), seen: list(), crosses: 3, size: 7}},
		{{rule: list(0, 60), width: 60, crosses: 3, size: 7}, {rule: list(0, 60), width: 60, seen: list(), crosses: 3, size: 7}},
	} {
		if a, b := ask(x[0]), ask(x[1]); !a.equal(b) {
			t.Errorf("%v: %v and %v", x, a, b)
		}
	}
}

// cutOff returns a question whose lists are parts of longer ones, which it returns as well: they go on behind the ends of the former ones.
func cutOff(number int) (q question, rule, seen []int) {
	crosses := 2 + number%6
	rule = append(grown(crosses, number), 99, -9, 98, 97)
	width := 20 + number%41
	found := show(rule[:crosses], width, rule[0]-number%7)
	seen = append(found, 99, -9)
	return question{rule[:crosses], number%121 - 60, width, seen[:len(found)], 60, crosses, 40 - number%4}, rule, seen
}

// R4, R8: arguments are not changed, also behind their ends, and equal arguments give equal results.
func TestArguments(t *testing.T) {
	for number := range 121 {
		q, rule, seen := cutOff(number)
		a := ask(q)
		other, keptRule, keptSeen := cutOff(number)
		if !slices.Equal(rule, keptRule) || !slices.Equal(seen, keptSeen) {
			t.Errorf("%v %v became %v %v", keptRule, keptSeen, rule, seen)
		}
		if a.errors[4] != api.OK || a.errors[5] != api.OK || a.errors[6] != api.OK || len(a.lists[2]) == 0 {
			t.Errorf("%v: %v", q, a)
		}
		for range 3 {
			if b := ask(other); !a.equal(b) {
				t.Errorf("%v: %v and %v", other, a, b)
			}
			ask(question{list(0, 1, 2), 1, 2, list(0), 9, 3, 7})
		}
	}
}

// R4: results are memory of their own.
func TestResultsAreNew(t *testing.T) {
	for number := range 121 {
		q, rule, seen := cutOff(number)
		_, keptRule, keptSeen := cutOff(number)
		a, want := ask(q), ask(q)
		for i, l := range a.lists {
			for j := range l[:cap(l)] {
				l[:cap(l)][j] = -9 - i
			}
			for j, other := range a.lists {
				if j != i && slices.Contains(other[:cap(other)], -9-i) {
					t.Fatalf("%v: two results share memory: %v", q, a)
				}
			}
		}
		if b := ask(q); !b.equal(want) || !slices.Equal(rule, keptRule) || !slices.Equal(seen, keptSeen) {
			t.Fatalf("%v: what is done to results changes %v to %v", q, want, b)
		}
	}
}
