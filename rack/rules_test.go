package rack_test

import (
	"math"
	"slices"
	"testing"

	"tusche/api"
	"tusche/rack"
)

// question is arguments for all functions.
type question struct {
	rack          rack.Rack
	motion        rack.Motion
	brace         int
	rows, columns int
}

// answer is everything that the functions return for a question. Its errors come in the order in which the chapter lists the functions.
type answer struct {
	stiff                bool
	motion               rack.Motion
	groups               []rack.Group
	needed, trim, detour []int
	missing              []rack.Brace
	freedom, ways        int
	errors               [11]api.Errno
}

func ask(q question) answer {
	var a answer
	a.errors[0] = rack.Check(q.rack)
	a.stiff, a.errors[1] = rack.Stiff(q.rack)
	a.motion, a.errors[2] = rack.Move(q.rack)
	a.errors[3] = rack.Verify(q.rack, q.motion)
	a.groups, a.errors[4] = rack.Groups(q.rack)
	a.needed, a.errors[5] = rack.Needed(q.rack)
	a.freedom, a.errors[6] = rack.Freedom(q.rack)
	a.missing, a.errors[7] = rack.Missing(q.rack)
	a.trim, a.errors[8] = rack.Trim(q.rack)
	a.detour, a.errors[9] = rack.Detour(q.rack, q.brace)
	a.ways, a.errors[10] = rack.Ways(q.rows, q.columns)
	return a
}

// lists returns all lists of numbers of an answer.
func (a answer) lists() [][]int {
	all := [][]int{a.needed, a.trim, a.detour, a.motion.Rows, a.motion.Columns}
	for _, g := range a.groups {
		all = append(all, g.Rows, g.Columns)
	}
	return all
}

func (a answer) equal(b answer) bool {
	return a.stiff == b.stiff && a.freedom == b.freedom && a.ways == b.ways && a.errors == b.errors &&
		len(a.groups) == len(b.groups) && slices.EqualFunc(a.lists(), b.lists(), slices.Equal[[]int]) && slices.Equal(a.missing, b.missing)
}

// checkNothing checks that nothing comes with an error (R2).
func (a answer) checkNothing(t *testing.T, q question) {
	t.Helper()
	e := a.errors
	if e[1] != api.OK && a.stiff || e[2] != api.OK && !isNone(a.motion) || e[4] != api.OK && len(a.groups) > 0 || e[5] != api.OK && len(a.needed) > 0 ||
		e[6] != api.OK && a.freedom != 0 || e[7] != api.OK && len(a.missing) > 0 || e[8] != api.OK && len(a.trim) > 0 ||
		e[9] != api.OK && len(a.detour) > 0 || e[10] != api.OK && a.ways != 0 {
		t.Errorf("%v: %v", q, a)
	}
}

// someMotions are motions that fit some racks, and no others.
func someMotions() []rack.Motion {
	return []rack.Motion{
		{}, {Rows: list(0), Columns: list(1)}, {Rows: list(1), Columns: list(0, 1)}, {Rows: list(0, 0), Columns: list(0, 0)}, {Rows: list(0, 1), Columns: list(1, 0)},
		{Rows: list(math.MinInt, math.MaxInt), Columns: list(math.MaxInt, math.MinInt)}, {Rows: make([]int, 6), Columns: list(0, 0, 0, 0, 0, 1)}, {Rows: make([]int, 5000), Columns: make([]int, 5000)},
	}
}

// P1, R1, R2: whatever comes, each function ends, and nothing comes with an error.
func TestWhateverComes(t *testing.T) {
	all := append(bigRacks(), smallRacks()[:400]...)
	for _, x := range badRacks() {
		all = append(all, x.rack)
	}
	numbers := list(0, 1, -1, 6, 7, 23, 24, math.MinInt, math.MaxInt)
	for _, r := range all {
		for _, m := range someMotions() {
			for i, n := range numbers {
				q := question{rack: r, motion: m, brace: n, rows: n, columns: numbers[i/2]}
				a := ask(q)
				a.checkNothing(t, q)
				if is := a.errors[0] == api.OK; is != (a.errors[1] == api.OK) || is != (a.errors[4] == api.OK) || is && a.stiff == (a.errors[2] == api.OK) || is && a.stiff != (a.errors[5] == api.OK) {
					t.Fatalf("%v: %v", q, a)
				}
			}
		}
	}
}

// R3: a nil list and one without elements are the same.
func TestNoList(t *testing.T) {
	for rows := range 8 {
		for columns := range 8 {
			none, empty := question{}, question{}
			none.rack = rack.Rack{Rows: rows, Columns: columns}
			empty.rack = rack.Rack{Rows: rows, Columns: columns, Braces: []rack.Brace{}}
			empty.motion = rack.Motion{Rows: list(), Columns: list()}
			if a, b := ask(none), ask(empty); !a.equal(b) {
				t.Errorf("%d, %d: %v and %v", rows, columns, a, b)
			}
		}
	}
}

// cut returns a question whose lists have some sizes, and the same question with whole lists, which share their memory: they go on behind the ends of the former ones.
func cut(size, kinds int) (q, whole question) {
	whole = question{rack: mixed(3, 4, 20, kinds, 77), motion: rack.Motion{Rows: list(1, 2, 1, 3, 1, 2), Columns: list(2, 2, 1, 2, 3, 3)}, brace: size / 2, rows: 3, columns: 4}
	q = whole
	q.rack.Braces = q.rack.Braces[:size]
	q.motion.Rows, q.motion.Columns = q.motion.Rows[:3], q.motion.Columns[:4]
	return q, whole
}

// same reports whether the lists of questions are the same.
func same(a, b question) bool {
	return slices.Equal(a.rack.Braces, b.rack.Braces) && slices.Equal(a.motion.Rows, b.motion.Rows) && slices.Equal(a.motion.Columns, b.motion.Columns)
}

// R4, R8: arguments are not changed, also behind their ends, and equal arguments give equal results.
func TestArguments(t *testing.T) {
	for size := range 21 {
		for _, kinds := range list(1, 3) {
			q, whole := cut(size, kinds)
			a := ask(q)
			other, kept := cut(size, kinds)
			if !same(whole, kept) {
				t.Errorf("%v became %v", kept, whole)
			}
			for range 3 {
				if b := ask(other); !a.equal(b) {
					t.Errorf("%v: %v and %v", other, a, b)
				}
			}
		}
	}
}

// R4: results are memory of their own.
func TestResultsAreNew(t *testing.T) {
	for size := range 21 {
		for _, kinds := range list(1, 3) {
			q, whole := cut(size, kinds)
			_, kept := cut(size, kinds)
			a, want := ask(q), ask(q)
			for i, l := range a.lists() {
				for j := range l[:cap(l)] {
					l[:cap(l)][j] = -9 - i
				}
				for j, other := range a.lists() {
					if j != i && slices.Contains(other, -9-i) {
						t.Fatalf("%v: two results share memory: %v", q, a)
					}
				}
			}
			clear(a.missing[:cap(a.missing)])
			clear(a.groups[:cap(a.groups)])
			if b := ask(q); !b.equal(want) || !same(whole, kept) {
				t.Fatalf("%v: what is done to results changes %v to %v", q, want, b)
			}
		}
	}
}
