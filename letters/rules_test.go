package letters_test

import (
	"math"
	"slices"
	"strings"
	"testing"

	"tusche/api"
	"tusche/letters"
)

// question is arguments for all functions.
type question struct {
	o     letters.Office
	a, b  string
	i, k  int
	swaps []int
}

// answer is everything that the functions return for a question. Its errors come in the order in which the chapter lists the functions.
type answer struct {
	same, before        bool
	x, y, count         int
	swaps               []int
	first, rest, common string
	steps               []string
	errors              [11]api.Errno
}

func ask(q question) answer {
	var a answer
	a.errors[0] = letters.Check(q.o)
	a.same, a.errors[1] = letters.Same(q.o, q.a, q.b)
	a.x, a.y, a.errors[2] = letters.Differ(q.o, q.a, q.b)
	a.swaps, a.errors[3] = letters.Swaps(q.o, q.a, q.b)
	a.errors[4] = letters.Verify(q.o, q.a, q.b, q.swaps)
	a.first, a.errors[5] = letters.First(q.o, q.a)
	a.steps, a.errors[6] = letters.Steps(q.o, q.a)
	a.count, a.errors[7] = letters.Count(q.o, q.a)
	a.before, a.errors[8] = letters.Before(q.o, q.a, q.i, q.k)
	a.rest, a.errors[9] = letters.Rest(q.o, q.a, q.b)
	a.common, a.errors[10] = letters.Common(q.o, q.a, q.b)
	return a
}

func (a answer) equal(b answer) bool {
	same := slices.Equal(a.swaps, b.swaps) && slices.Equal(a.steps, b.steps)
	return same && a.same == b.same && a.before == b.before && a.x == b.x && a.y == b.y && a.count == b.count && a.first == b.first && a.rest == b.rest && a.common == b.common && a.errors == b.errors
}

// checkNothing checks that nothing comes with an error (R2).
func (a answer) checkNothing(t *testing.T, q question) {
	t.Helper()
	e := a.errors
	if e[1] != api.OK && a.same || e[2] != api.OK && (a.x != 0 || a.y != 0) || e[3] != api.OK && len(a.swaps) > 0 || e[5] != api.OK && a.first != "" {
		t.Errorf("%v: %v", q, a)
	}
	if e[6] != api.OK && len(a.steps) > 0 || (e[7] == api.OK) != (a.count > 0) || e[8] != api.OK && a.before || e[9] != api.OK && a.rest != "" || e[10] != api.OK && a.common != "" {
		t.Errorf("%v: %v", q, a)
	}
}

// P1, R1, R2: whatever comes, each function ends, and nothing comes with an error.
func TestWhateverComes(t *testing.T) {
	offices := []letters.Office{exampleO(), allFree(6), allBound(6), office(3, "ab"), of(1)}
	for _, x := range badOffices() {
		offices = append(offices, x.o)
	}
	logs := []string{"", "a", "ab", "badc", "abcdefabcdefab", "ffffffffffffff", "bdca", "aaaaaaaaaaaaaa", "abcdefg", "A", "\x00", "\xff\xfe", "ä", strings.Repeat("a", 15), strings.Repeat("?", 70000)}
	numbers := list(0, 1, 2, 13, 14, -1, math.MinInt, math.MaxInt)
	for n, o := range offices {
		for i, a := range logs {
			for k, b := range logs {
				at := n + 3*i + 5*k
				q := question{o, a, b, numbers[at%len(numbers)], numbers[at/3%len(numbers)], numbers[at%5 : at%5+at%4]}
				x := ask(q)
				x.checkNothing(t, q)
				e := x.errors
				if e[1] != e[10] || e[5] != e[6] || e[6] != e[7] || e[1] != api.OK && (e[2] != e[1] || e[3] != e[1] || e[4] != e[1] || e[9] != e[1]) || e[5] != api.OK && e[8] != e[5] {
					t.Fatalf("%v: %v", q, x)
				}
				if e[1] == api.OK && (x.same != (e[2] == api.ErrSame) || x.same != (e[3] == api.OK)) {
					t.Fatalf("%v: %v", q, x)
				}
			}
		}
	}
}

// R1: of several errors, the first one that is mentioned.
func TestSeveralErrors(t *testing.T) {
	o := office(3, "ab")
	long := strings.Repeat("a", 15)
	for i, x := range []struct {
		q    question
		want [11]api.Errno
	}{
		{question{of(9, make([][2]int, 99)...), long, "?", 0, 0, list(-1)}, [...]api.Errno{3, 3, 3, 3, 3, 3, 3, 3, 3, 3, 3}},
		{question{of(3, pair("aa"), pair("zz")), long, "?", 0, 0, list(-1)}, [...]api.Errno{20, 20, 20, 20, 20, 20, 20, 20, 20, 20, 20}},
		{question{o, long, "?", -1, -1, list(-1)}, [...]api.Errno{0, 19, 19, 19, 19, 19, 19, 19, 19, 19, 19}},
		{question{o, "?", long, -1, -1, list(-1)}, [...]api.Errno{0, 9, 9, 9, 9, 9, 9, 9, 9, 9, 9}},
		{question{o, "ac", long, 2, 2, list(-1)}, [...]api.Errno{0, 19, 19, 19, 19, 0, 0, 0, 5, 19, 19}},
		{question{o, "ac", "ca", 2, 2, list(0, 5)}, [...]api.Errno{0, 0, 0, 14, 12, 0, 0, 0, 5, 14, 0}},
		{question{o, "ac", "ca", 0, 0, list(5, 0)}, [...]api.Errno{0, 0, 0, 14, 5, 0, 0, 0, 20, 14, 0}},
		{question{o, "ab", "ba", 1, 0, list(0, 0)}, [...]api.Errno{0, 0, 20, 0, 13, 0, 0, 0, 0, 0, 0}},
		{question{o, "ab", "ba", -1, 0, nil}, [...]api.Errno{0, 0, 20, 0, 13, 0, 0, 0, 5, 0, 0}},
	} {
		a := ask(x.q)
		if a.errors != x.want {
			t.Errorf("%d: %v, want %v", i, a.errors, x.want)
		}
		a.checkNothing(t, x.q)
	}
}

// R3: a nil list and one without elements are the same.
func TestNoList(t *testing.T) {
	for _, x := range [][2]question{
		{{}, {o: letters.Office{Free: [][2]int{}}}},
		{{o: allBound(3), a: "abc", b: "abc", k: 1}, {o: letters.Office{Kinds: 3, Free: [][2]int{}}, a: "abc", b: "abc", k: 1, swaps: list()}},
		{{o: exampleO(), a: "ac", b: "ca", k: 1}, {o: exampleO(), a: "ac", b: "ca", k: 1, swaps: list()}},
	} {
		if a, b := ask(x[0]), ask(x[1]); !a.equal(b) {
			t.Errorf("%v: %v and %v", x, a, b)
		}
	}
}

// cutOff returns a question whose lists are parts of longer ones, which it returns as well: they go on behind the ends of the former ones.
func cutOff(number int) (q question, free [][2]int, swaps []int) {
	next := chance(number)
	o := mixed(6, next)
	log := mixedLog(6, 1+number%letters.MaxLog, next)
	other := shuffled(o, log, next)
	free = append(slices.Clone(o.Free), pair("aa"), pair("zz"))
	found, _ := letters.Swaps(o, log, other)
	swaps = append(slices.Clone(found), 99, -9)
	o.Free = free[:len(o.Free)]
	return question{o, log, other, 0, len(log) - 1, swaps[:len(found)]}, free, swaps
}

// R4, R8: arguments are not changed, also behind their ends, and equal arguments give equal results.
func TestArguments(t *testing.T) {
	for number := range 300 {
		q, free, swaps := cutOff(number)
		a := ask(q)
		other, keptFree, keptSwaps := cutOff(number)
		if !slices.Equal(free, keptFree) || !slices.Equal(swaps, keptSwaps) {
			t.Errorf("%v %v became %v %v", keptFree, keptSwaps, free, swaps)
		}
		if !a.same || a.errors[2] != api.ErrSame || a.errors[4] != api.OK || a.errors[9] != api.OK {
			t.Errorf("%v: %v", q, a)
		}
		for range 3 {
			if b := ask(other); !a.equal(b) {
				t.Errorf("%v: %v and %v", other, a, b)
			}
			ask(question{o: exampleO(), a: "badc", b: "bda", k: 1, swaps: list(0)})
		}
	}
}

// R4: results are memory of their own.
func TestResultsAreNew(t *testing.T) {
	for number := range 300 {
		q, free, swaps := cutOff(number)
		_, keptFree, keptSwaps := cutOff(number)
		a, want := ask(q), ask(q)
		clear(a.swaps[:cap(a.swaps)])
		clear(a.steps[:cap(a.steps)])
		if b := ask(q); !b.equal(want) || !slices.Equal(free, keptFree) || !slices.Equal(swaps, keptSwaps) {
			t.Fatalf("%v: what is done to results changes %v to %v", q, want, b)
		}
	}
}
