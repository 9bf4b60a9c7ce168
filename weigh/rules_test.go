package weigh_test

import (
	"math"
	"slices"
	"testing"

	"tusche/api"
	"tusche/weigh"
)

// question is arguments for all functions.
type question struct {
	weights, laying []int
	load            int
	stones          int
	plan            []weigh.Weighing
	odd, way        int
	shown           []int
	weighings       int
}

// answer is everything that the functions return for a question. Its errors come in the order in which the chapter lists the functions.
type answer struct {
	lists         [4][]int // of Loads, Lay, Set and Shows
	reach, fewest int
	twins         [2]situation
	left          []situation
	plan          []weigh.Weighing
	errors        [12]api.Errno
}

func ask(q question) answer {
	var a answer
	a.errors[0] = weigh.Check(q.weights)
	a.lists[0], a.errors[1] = weigh.Loads(q.weights)
	a.lists[1], a.errors[2] = weigh.Lay(q.weights, q.load)
	a.errors[3] = weigh.Balances(q.weights, q.laying, q.load)
	a.reach, a.errors[4] = weigh.Reach(q.weights)
	a.fewest, a.errors[5] = weigh.Fewest(q.load)
	a.lists[2], a.errors[6] = weigh.Set(q.load)
	a.errors[7] = weigh.CheckPlan(q.stones, q.plan)
	a.lists[3], a.errors[8] = weigh.Shows(q.stones, q.plan, q.odd, q.way)
	a.twins[0], a.twins[1], a.errors[9] = weigh.Twins(q.stones, q.plan)
	a.left, a.errors[10] = weigh.Left(q.stones, q.plan, q.shown)
	a.plan, a.errors[11] = weigh.Plan(q.stones, q.weighings)
	return a
}

func (a answer) equal(b answer) bool {
	for i, l := range a.lists {
		if !slices.Equal(l, b.lists[i]) {
			return false
		}
	}
	return a.reach == b.reach && a.fewest == b.fewest && a.twins == b.twins && slices.Equal(a.left, b.left) && sameWeighings(a.plan, b.plan) && a.errors == b.errors
}

// checkNothing checks that nothing comes with an error (R2).
func (a answer) checkNothing(t *testing.T, q question) {
	t.Helper()
	e := a.errors
	for i, j := range list(1, 2, 6, 8) {
		if e[j] != api.OK && len(a.lists[i]) > 0 {
			t.Errorf("%v: %v", q, a)
		}
	}
	if e[4] != api.OK && a.reach != 0 || e[5] != api.OK && a.fewest != 0 || (e[9] == api.OK) == (a.twins == [2]situation{}) {
		t.Errorf("%v: %v", q, a)
	}
	if e[10] != api.OK && len(a.left) > 0 || (e[11] == api.OK) != (len(a.plan) > 0) || (e[8] == api.OK) != (len(a.lists[3]) == len(q.plan)) && len(q.plan) > 0 {
		t.Errorf("%v: %v", q, a)
	}
}

// P1, R1, R2: whatever comes, each function ends, and nothing comes with an error.
func TestWhateverComes(t *testing.T) {
	numbers := list(0, 1, 2, 3, 7, 8, 12, 13, 14, 1092, 1093, 1094, 2000, 2001, -1, -2, -1093, math.MinInt, math.MinInt+1, math.MaxInt, math.MaxInt-1)
	next := chance(1)
	number := func() int { return numbers[next(len(numbers))] }
	some := func(limit int) []int {
		var l []int
		for range next(limit) {
			l = append(l, number())
		}
		return l
	}
	badSets, badTrials := badSets(), badTrials()
	for range 20000 {
		q := question{some(9), some(5), number(), number(), nil, number(), number(), some(5), number()}
		for range next(5) {
			q.plan = append(q.plan, weigh.Weighing{Left: some(4), Right: some(4)})
		}
		switch next(4) {
		case 0:
			q.weights = badSets[next(len(badSets))].weights
			q.laying = q.weights
		case 1:
			x := badTrials[next(len(badTrials))]
			q.stones, q.plan = x.stones, x.plan
		case 2:
			q.stones = 2 + next(12)
			q.plan = mixed(q.stones, next(4), number())
			q.weights = list(1, 3, 9)
		}
		a := ask(q)
		a.checkNothing(t, q)
		e := a.errors
		if e[0] != e[1] || e[0] != e[4] || e[5] != e[6] || e[7] != api.OK && (e[7] != e[8] || e[7] != e[9] || e[7] != e[10]) {
			t.Fatalf("%v: %v", q, e)
		}
	}
}

// R1: of several errors, the first one that is mentioned.
func TestSeveralErrors(t *testing.T) {
	both := plan(weigh.Weighing{Left: list(1, 0), Right: list(0, 9)})
	for i, x := range []struct {
		q    question
		want [12]api.Errno
	}{
		{question{nil, list(2), 0, 0, make([]weigh.Weighing, 4), -1, 2, list(2), 4}, [...]api.Errno{1, 1, 1, 1, 1, 3, 3, 3, 3, 3, 3, 3}},
		{question{make([]int, 8), nil, -1, 14, both, 14, -2, nil, 0}, [...]api.Errno{2, 2, 2, 2, 2, 3, 3, 3, 3, 3, 3, 3}},
		{question{list(2, 1, 0), list(2), 1094, 3, make([]weigh.Weighing, 4), 3, 2, nil, -1}, [...]api.Errno{7, 7, 7, 7, 7, 3, 3, 2, 2, 2, 2, 3}},
		{question{list(1, 3), list(1), 99, 3, both, 3, 2, list(2), 3}, [...]api.Errno{0, 0, 14, 9, 0, 0, 0, 7, 7, 7, 7, 0}},
		{question{list(1, 3), list(1, 2), 99, 2, plan(against(0, 1)), 2, 2, list(0, 0), 3}, [...]api.Errno{0, 0, 14, 9, 0, 0, 0, 0, 5, 0, 9, 14}},
		{question{list(1, 3), list(1, 0), -2000, 13, nil, 12, 2, list(0), 3}, [...]api.Errno{0, 0, 14, 13, 0, 3, 3, 0, 3, 0, 9, 14}},
		{question{list(2, 2), list(1, 1), 4, 3, plan(against(0, 1), against(0, 2)), 2, 1, list(0, 0), 1}, [...]api.Errno{0, 0, 0, 0, 0, 0, 0, 0, 0, 14, 0, 14}},
	} {
		a := ask(x.q)
		if a.errors != x.want {
			t.Errorf("%d: %v, want %v", i, a.errors, x.want)
		}
		a.checkNothing(t, x.q)
	}
}

// R3: a nil list and one without elements are the same.
func TestNoList(t *testing.T) {
	for _, x := range [][2]question{
		{{}, {weights: list(), laying: list(), plan: plan(), shown: list()}},
		{{weights: list(1), stones: 3, load: 1, weighings: 2}, {weights: list(1), laying: list(), stones: 3, plan: plan(), load: 1, shown: list(), weighings: 2}},
		{{stones: 3, plan: plan(weigh.Weighing{})}, {stones: 3, plan: plan(weigh.Weighing{Left: list(), Right: list()})}},
		{{stones: 3, plan: plan(weigh.Weighing{Left: list(0)})}, {stones: 3, plan: plan(weigh.Weighing{Left: list(0), Right: list()})}},
	} {
		if a, b := ask(x[0]), ask(x[1]); !a.equal(b) {
			t.Errorf("%v: %v and %v", x, a, b)
		}
	}
}

// stuff is a question without errors, and all of the lists of which its lists are parts: they go on behind the ends of the former ones.
type stuff struct {
	question
	lists     [][]int
	weighings []weigh.Weighing
}

// cutOff returns a question whose lists are parts of longer ones.
func cutOff(number int) stuff {
	var s stuff
	cut := func(l []int) []int {
		longer := append(slices.Clone(l), 99, -9)
		s.lists = append(s.lists, longer)
		return longer[:len(l)]
	}
	s.question = question{load: 1 + number%3, stones: 3 + number%10, odd: number % 3, way: number%3 - 1}
	s.weights = cut(list(1, 3, 9, 10, 1000+number)[:2+number%4])
	s.laying = cut(list(1, -1, 0, 0, 0)[:2+number%4])
	size := 1 + number%3
	for _, w := range mixed(s.stones, size, number) {
		s.weighings = append(s.weighings, weigh.Weighing{Left: cut(w.Left), Right: cut(w.Right)})
	}
	s.shown = cut(seen(s.weighings, situation{s.odd, s.way}))
	s.weighings = append(s.weighings, weigh.Weighing{Left: list(98), Right: list(97)})
	s.plan, s.question.weighings = s.weighings[:size], 3
	return s
}

func (s stuff) equal(other stuff) bool {
	return slices.EqualFunc(s.lists, other.lists, slices.Equal[[]int]) && sameWeighings(s.weighings, other.weighings)
}

// R4, R8: arguments are not changed, also behind their ends, and equal arguments give equal results.
func TestArguments(t *testing.T) {
	for number := range 120 {
		s, kept, other := cutOff(number), cutOff(number), cutOff(number)
		a := ask(s.question)
		if !s.equal(kept) {
			t.Errorf("%v became %v", kept, s)
		}
		if a.errors[2] != api.OK || a.errors[8] != api.OK || len(a.left) == 0 {
			t.Errorf("%v: %v", s, a)
		}
		for range 3 {
			if b := ask(other.question); !a.equal(b) {
				t.Errorf("%v: %v and %v", other, a, b)
			}
			ask(question{weights: list(1, 1), load: 2, stones: 3, plan: plan(against(0, 1)), shown: list(0), weighings: 2})
		}
	}
}

// R4: results are memory of their own.
func TestResultsAreNew(t *testing.T) {
	for number := range 120 {
		s, kept := cutOff(number), cutOff(number)
		a, want := ask(s.question), ask(s.question)
		all := a.lists[:]
		for _, w := range a.plan {
			all = append(all, w.Left, w.Right)
		}
		for i, l := range all {
			for j := range l[:cap(l)] {
				l[:cap(l)][j] = -9 - i
			}
			for j, other := range all {
				if j != i && slices.Contains(other[:cap(other)], -9-i) {
					t.Fatalf("%v: two results share memory: %v", s, a)
				}
			}
		}
		clear(a.left[:cap(a.left)])
		clear(a.plan[:cap(a.plan)])
		if b := ask(s.question); !b.equal(want) || !s.equal(kept) {
			t.Fatalf("%v: what is done to results changes %v to %v", s, want, b)
		}
	}
}
