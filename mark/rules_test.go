package mark_test

import (
	"math"
	"slices"
	"testing"

	"tusche/api"
	"tusche/mark"
)

// question is arguments for all functions.
type question struct {
	code            mark.Code
	coalition, word []int
	size            int
	doubt           mark.Doubt
}

// answer is everything that the functions return for a question. Its errors come in the order in which the chapter lists the functions.
type answer struct {
	distance, copies, framed        int
	fewest, guilty, nearest, frames []int
	lean                            [][]int
	doubt                           mark.Doubt
	errors                          [11]api.Errno
}

func ask(q question) answer {
	var a answer
	a.errors[0] = mark.Check(q.code)
	a.distance, a.errors[1] = mark.Distance(q.code)
	a.errors[2] = mark.Makes(q.code, q.coalition, q.word)
	a.copies, a.errors[3] = mark.Copies(q.code, q.coalition)
	a.fewest, a.errors[4] = mark.Fewest(q.code, q.word)
	a.lean, a.errors[5] = mark.Lean(q.code, q.word, q.size)
	a.guilty, a.errors[6] = mark.Guilty(q.code, q.word, q.size)
	a.nearest, a.errors[7] = mark.Nearest(q.code, q.word)
	a.frames, a.framed, a.errors[8] = mark.Frames(q.code, q.size)
	a.doubt, a.errors[9] = mark.Doubtful(q.code)
	a.errors[10] = mark.Verify(q.code, q.doubt)
	return a
}

// lists returns all lists of numbers of an answer.
func (a answer) lists() [][]int {
	return slices.Concat(lists(a.fewest, a.guilty, a.nearest, a.frames, a.doubt.Copy), a.lean, a.doubt.Coalitions)
}

func (a answer) equal(b answer) bool {
	return a.distance == b.distance && a.copies == b.copies && a.framed == b.framed && a.errors == b.errors && len(a.lean) == len(b.lean) && equalLists(a.lists(), b.lists())
}

// checkNothing checks that nothing comes with an error (R2).
func (a answer) checkNothing(t *testing.T, q question) {
	t.Helper()
	e := a.errors
	if e[1] != api.OK && a.distance != 0 || (e[3] == api.OK) != (a.copies > 0) || (e[4] == api.OK) != (len(a.fewest) > 0) || e[5] != api.OK && len(a.lean) > 0 || e[6] != api.OK && len(a.guilty) > 0 {
		t.Errorf("%v: %v", q, a)
	}
	if (e[7] == api.OK) != (len(a.nearest) > 0) || (e[8] == api.OK) != (len(a.frames) > 0) || e[8] != api.OK && a.framed != 0 || (e[9] == api.OK) == isNone(a.doubt) {
		t.Errorf("%v: %v", q, a)
	}
}

// P1, R1, R2: whatever comes, each function ends, and nothing comes with an error.
func TestWhateverComes(t *testing.T) {
	all := append(bigCodes(), exampleC(), exampleD())
	for _, x := range badCodes() {
		all = append(all, x.code)
	}
	var coalitions [][]int
	for _, x := range badCoalitions() {
		coalitions = append(coalitions, x.coalition)
	}
	coalitions = append(coalitions, list(0), list(0, 1), list(1, 2), list(0, 1, 2, 3, 4, 5, 6, 7, 8, 9))
	words := lists(nil, word("00"), word("000"), word("01230123"), word("9"), list(math.MinInt, 0), list(0, 0, math.MaxInt), make([]int, 5000))
	sizes := list(0, 1, 2, 3, 10, 11, -1, math.MinInt, math.MaxInt)
	for i, c := range all {
		for j, coalition := range coalitions {
			w := words[(i+j)%len(words)]
			if i%2 == 0 && len(c.Words) > 0 {
				w = c.Words[j%len(c.Words)]
			}
			from := (i + 2*j) % len(coalitions)
			q := question{c, coalition, w, sizes[(i*j+j/3)%len(sizes)], mark.Doubt{Copy: w, Coalitions: coalitions[from : from+(i+j/2)%(len(coalitions)-from+1)]}}
			a := ask(q)
			a.checkNothing(t, q)
			if e := a.errors; e[0] == api.OK && (e[7] != api.OK && (e[4] != e[7] || e[5] != e[7] || e[6] != e[7] || e[10] != e[7]) || e[3] != api.OK && e[2] != e[3] || e[5] != api.OK && e[6] != e[5]) {
				t.Fatalf("%v: %v", q, a)
			}
		}
	}
}

// R3: a nil list and one without elements are the same.
func TestNoList(t *testing.T) {
	c := exampleC()
	for _, x := range [][2]question{
		{{}, {code: mark.Code{Words: lists()}, coalition: list(), word: list(), doubt: mark.Doubt{Copy: list(), Coalitions: lists()}}},
		{{code: mark.Code{Marks: 2}}, {code: mark.Code{Marks: 2, Words: lists()}}},
		{{code: mark.Code{Marks: 2, Words: lists(nil, word("0"))}}, {code: mark.Code{Marks: 2, Words: lists(list(), word("0"))}}},
		{{code: mark.Code{Marks: 2, Words: lists(word("0"), nil)}}, {code: mark.Code{Marks: 2, Words: lists(word("0"), list())}}},
		{{code: c, size: 2}, {code: c, size: 2, coalition: list(), word: list(), doubt: mark.Doubt{Copy: list(), Coalitions: lists()}}},
		{{code: c, word: word("000"), size: 2, doubt: mark.Doubt{Copy: word("000")}}, {code: c, coalition: list(), word: word("000"), size: 2, doubt: mark.Doubt{Copy: word("000"), Coalitions: lists()}}},
		{{code: c, doubt: mark.Doubt{Copy: word("000"), Coalitions: lists(nil)}}, {code: c, doubt: mark.Doubt{Copy: word("000"), Coalitions: lists(list())}}},
	} {
		if a, b := ask(x[0]), ask(x[1]); !a.equal(b) {
			t.Errorf("%v: %v and %v", x, a, b)
		}
	}
}

// R1: of several errors, the first one that is mentioned.
func TestSeveralErrors(t *testing.T) {
	c := exampleC()
	for i, x := range []struct {
		q    question
		want [11]api.Errno
	}{
		{question{c, nil, word("33"), 0, mark.Doubt{Copy: word("33")}}, [...]api.Errno{0, 0, 1, 1, 3, 3, 3, 3, 4, 14, 3}},
		{question{c, list(0, 0, 9), word("333"), 0, mark.Doubt{Copy: word("333"), Coalitions: make([][]int, 11)}}, [...]api.Errno{0, 0, 7, 7, 4, 4, 4, 4, 4, 14, 4}},
		{question{c, list(0, 9, 0), word("012"), 0, mark.Doubt{Copy: word("012"), Coalitions: make([][]int, 11)}}, [...]api.Errno{0, 0, 5, 5, 0, 4, 4, 0, 4, 14, 2}},
		{question{c, list(0, 1), word("012"), 2, mark.Doubt{Copy: word("012"), Coalitions: lists(list(0, 1, 2), nil)}}, [...]api.Errno{0, 0, 13, 0, 0, 0, 14, 0, 5, 14, 2}},
		{question{c, list(0, 1), word("00"), 11, mark.Doubt{Copy: word("001"), Coalitions: lists(list(0, 1), list(0, 1), list(0))}}, [...]api.Errno{0, 0, 3, 0, 3, 3, 3, 3, 4, 14, 13}},
		{question{code: code(2, "0"), coalition: list(0), word: word("1"), size: 1, doubt: mark.Doubt{Copy: word("1"), Coalitions: lists(list(0))}}, [...]api.Errno{0, 14, 13, 0, 14, 0, 14, 0, 5, 14, 13}},
	} {
		a := ask(x.q)
		if a.errors != x.want {
			t.Errorf("%d: %v, want %v", i, a.errors, x.want)
		}
		a.checkNothing(t, x.q)
	}
}

// cutOff returns a question whose lists are parts of longer ones, which it returns as well: they go on behind the ends of the former ones. It has a doubt.
func cutOff(number int) (q question, whole [][]int) {
	c := mixed(2+number%3, 10, 8, number)
	c.Words[1] = slices.Clone(c.Words[0])
	whole = append(c.Words, list(0, 1, 99, 98), slices.Clone(c.Words[0]), list(0, 97, 96), list(1, 95, 94), list(9, 99))
	customers, size := 2+number%8, 1+number/2%8
	words := slices.Clone(whole)[:customers]
	for i, w := range words {
		words[i] = w[:size]
	}
	coalitions := slices.Clone(whole[12:])[:2]
	for i, coalition := range coalitions {
		coalitions[i] = coalition[:1]
	}
	w := whole[11][:size]
	return question{mark.Code{Marks: c.Marks, Words: words}, whole[10][:2], w, 1 + number%10, mark.Doubt{Copy: w, Coalitions: coalitions}}, whole
}

// sameQuestions reports whether the lists of questions are the same, also behind the ends of their lists of lists.
func sameQuestions(a, b question) bool {
	behind := func(l [][]int) [][]int { return l[:len(l)+1] }
	return equalLists(behind(a.code.Words), behind(b.code.Words)) && equalLists(behind(a.doubt.Coalitions), behind(b.doubt.Coalitions)) && slices.Equal(a.word, b.word) && slices.Equal(a.coalition, b.coalition)
}

// R4, R8: arguments are not changed, also behind their ends, and equal arguments give equal results.
func TestArguments(t *testing.T) {
	for number := range 60 {
		q, whole := cutOff(number)
		a := ask(q)
		other, kept := cutOff(number)
		if !equalLists(whole, kept) || !sameQuestions(q, other) {
			t.Errorf("%v became %v", kept, whole)
		}
		if a.errors != [11]api.Errno{} {
			t.Errorf("%v: %v", q, a.errors)
		}
		for range 3 {
			if b := ask(other); !a.equal(b) {
				t.Errorf("%v: %v and %v", other, a, b)
			}
			ask(question{code: exampleC(), coalition: list(0), word: word("012"), size: 3})
		}
	}
}

// R4: results are memory of their own.
func TestResultsAreNew(t *testing.T) {
	for number := range 60 {
		q, whole := cutOff(number)
		_, kept := cutOff(number)
		a, want := ask(q), ask(q)
		all := a.lists()
		for i, l := range all {
			for j := range l[:cap(l)] {
				l[:cap(l)][j] = -9 - i
			}
			for j, other := range all {
				if j != i && slices.Contains(other[:cap(other)], -9-i) {
					t.Fatalf("%v: two results share memory: %v", q, a)
				}
			}
		}
		clear(a.lean[:cap(a.lean)])
		clear(a.doubt.Coalitions[:cap(a.doubt.Coalitions)])
		if b := ask(q); !b.equal(want) || !equalLists(whole, kept) {
			t.Fatalf("%v: what is done to results changes %v to %v", q, want, b)
		}
	}
}
