package repeat_test

import (
	"math"
	"slices"
	"strings"
	"testing"
	"unsafe"

	"tusche/api"
	"tusche/repeat"
)

// question is arguments for all functions.
type question struct {
	border, other string
	p, q, n       int
	kinds         int
	joined        []string
}

// answer is everything that the functions return for a question. Its errors come in the order in which the chapter lists the functions.
type answer struct {
	periods, covers                []int
	root, wide, plain, first, join string
	exponent, rings                int
	same                           bool
	errors                         [10]api.Errno
}

// wideError and ringsError are the places of the errors of the functions that are not asked for a border.
const (
	wideError  = 4
	ringsError = 8
)

func ask(q question) answer {
	var a answer
	a.errors[0] = repeat.Check(q.border)
	a.periods, a.errors[1] = repeat.Periods(q.border)
	a.root, a.exponent, a.errors[2] = repeat.Root(q.border)
	a.covers, a.errors[3] = repeat.Covers(q.border)
	a.wide, a.errors[4] = repeat.Wide(q.p, q.q, q.n)
	a.plain, a.errors[5] = repeat.Plain(q.border)
	a.first, a.errors[6] = repeat.First(q.border)
	a.same, a.errors[7] = repeat.Same(q.border, q.other)
	a.rings, a.errors[8] = repeat.Rings(q.n, q.kinds)
	a.join, a.errors[9] = repeat.Join(q.joined)
	return a
}

// texts returns all results of an answer that are texts.
func (a answer) texts() [5]string {
	return [...]string{a.root, a.wide, a.plain, a.first, a.join}
}

func (a answer) equal(b answer) bool {
	return a.texts() == b.texts() && a.exponent == b.exponent && a.rings == b.rings && a.same == b.same && a.errors == b.errors && slices.Equal(a.periods, b.periods) && slices.Equal(a.covers, b.covers)
}

// checkNothing checks that nothing comes with an error (R2), and something without one.
func (a answer) checkNothing(t *testing.T, q question) {
	t.Helper()
	e := a.errors
	for i, function := range list(2, 4, 5, 6, 9) {
		if (e[function] == api.OK) != (a.texts()[i] != "") {
			t.Errorf("%v: %v", q, a)
		}
	}
	if (e[1] == api.OK) != (len(a.periods) > 0) || (e[2] == api.OK) != (a.exponent > 0) || (e[3] == api.OK) != (len(a.covers) > 0) || e[7] != api.OK && a.same || (e[8] == api.OK) != (a.rings > 0) {
		t.Errorf("%v: %v", q, a)
	}
}

// P1, R1, R2: whatever comes, each function ends, and nothing comes with an error.
func TestWhateverComes(t *testing.T) {
	all := bigBorders()
	for _, x := range badBorders() {
		all = append(all, x.border)
	}
	numbers := list(0, 1, 2, 5, 9, 10, 13, 16, 17, 24, 25, -1, math.MinInt, math.MaxInt)
	for i, border := range all {
		for j, number := range numbers {
			at := func(k int) int { return numbers[(i+j*k+i/7)%len(numbers)] }
			q := question{border, all[(i*j)%len(all)], at(1), at(2), number, at(3), all[i : i+min(j/2, len(all)-i)]}
			a := ask(q)
			a.checkNothing(t, q)
			e := a.errors
			if e[1] != e[0] || e[2] != e[0] || e[3] != e[0] || e[6] != e[0] || e[0] != api.OK && (e[5] != e[0] || e[7] != e[0]) {
				t.Fatalf("%v: %v", q, a)
			}
		}
	}
}

// R3: a nil list and one without elements are the same.
func TestNoList(t *testing.T) {
	if a, b := ask(question{}), ask(question{joined: rows()}); !a.equal(b) || a.errors[9] != api.ErrEmpty {
		t.Errorf("%v and %v", a, b)
	}
}

// R1: of several errors, the first one that is mentioned.
func TestSeveralErrors(t *testing.T) {
	long := strings.Repeat("A", 25)
	for _, x := range []struct {
		q    question
		want [10]api.Errno
	}{
		{question{border: long, joined: rows("", "", "", "", "", "A")}, [...]api.Errno{19, 19, 19, 19, 3, 19, 19, 19, 3, 2}},
		{question{border: long[:24], other: long, n: 24, p: 25, q: 1, kinds: 9, joined: rows("a", long, "")}, [...]api.Errno{9, 9, 9, 9, 3, 9, 9, 9, 3, 19}},
		{question{border: "aaaaaaaaaaaaaaa", other: "A", n: 16, p: 16, q: 16, kinds: 10, joined: rows("a", "A", long)}, [...]api.Errno{0, 0, 0, 0, 0, 16, 0, 9, 3, 9}},
		{question{border: "", other: "A", n: 17, p: 1, q: 1, kinds: 9, joined: rows("abcdefghi", "A")}, [...]api.Errno{1, 1, 1, 1, 0, 1, 1, 1, 3, 19}},
	} {
		a := ask(x.q)
		if a.errors != x.want {
			t.Errorf("%v: %v, want %v", x.q, a.errors, x.want)
		}
		a.checkNothing(t, x.q)
	}
}

// questions returns questions to which there is an answer, with memory of their own.
func questions() []question {
	var all []question
	for i, l := range joins() {
		border := strings.Clone(l[0] + l[len(l)-1])[:1+i%len(l[0])]
		n := 1 + i%16
		all = append(all, question{border, turned(border), 1 + i%n, 1 + i/3%n, n, 1 + i%9, slices.Clone(l)})
	}
	return append(all, question{"ab", "ba", 1, 2, 3, 4, rows("abcd")})
}

// R4, R8: arguments are not changed, also behind their ends, and equal arguments give equal results.
func TestArguments(t *testing.T) {
	for _, q := range questions() {
		whole := append(slices.Clone(q.joined), "zz", "a", "A", "")
		kept := slices.Clone(whole)
		q.joined = whole[:len(q.joined)]
		a := ask(q)
		if a.errors != [10]api.Errno{} {
			t.Errorf("%v: %v", q, a.errors)
		}
		if !slices.Equal(whole, kept) {
			t.Errorf("%q became %q", kept, whole)
		}
		for range 2 {
			if b := ask(q); !a.equal(b) {
				t.Errorf("%v: %v and %v", q, a, b)
			}
		}
		_ = ask(question{border: "other", joined: rows("other")})
		q.joined = slices.Clone(q.joined)
		if b := ask(q); !a.equal(b) {
			t.Errorf("%v: %v and %v", q, a, b)
		}
	}
}

// share reports whether two texts have memory in common.
func share(a, b string) bool {
	from, other := uintptr(unsafe.Pointer(unsafe.StringData(a))), uintptr(unsafe.Pointer(unsafe.StringData(b)))
	return from < other+uintptr(len(b)) && other < from+uintptr(len(a))
}

// R4: results are memory of their own. (Texts of one byte may be Go's own ones.)
func TestResultsAreNew(t *testing.T) {
	for _, q := range questions() {
		a, want := ask(q), ask(q)
		for i, s := range a.texts() {
			others := append(slices.Clone(q.joined), q.border, q.other)
			texts := a.texts()
			others = append(others, texts[i+1:]...)
			for _, other := range others {
				if len(s) > 1 && share(s, other) {
					t.Fatalf("%v: %s shares memory with %s", q, s, other)
				}
			}
		}
		for i, l := range [][]int{a.periods, a.covers} {
			for j := range l[:cap(l)] {
				l[:cap(l)][j] = -9 - i
			}
		}
		if a.periods[0] != -9 || a.covers[0] != -10 || !ask(q).equal(want) {
			t.Fatalf("%v: what is done to results changes %v", q, want)
		}
	}
}
