package fold_test

import (
	"math"
	"slices"
	"strings"
	"testing"

	"tusche/api"
	"tusche/fold"
)

// answer is everything that the functions return for the same arguments.
type answer struct {
	places []api.Bounds
	order  []int
	count  int
	all    int
	can    []int
	done   fold.Strip
	steps  []int
	stuck  fold.Strip
	errors [11]api.Errno
}

func ask(s fold.Strip, order []int, step int, steps []int) answer {
	var a answer
	a.errors[0] = fold.Check(s)
	a.places, a.errors[1] = fold.Places(s)
	a.errors[2] = fold.Lies(s, order)
	a.order, a.errors[3] = fold.Order(s)
	a.count, a.errors[4] = fold.Count(s)
	a.all, a.errors[5] = fold.All(s.Lengths)
	a.can, a.errors[6] = fold.Can(s)
	a.done, a.errors[7] = fold.Do(s, step)
	a.steps, a.errors[8] = fold.Steps(s)
	a.errors[9] = fold.Verify(s, steps)
	a.stuck, a.errors[10] = fold.Stuck(s)
	return a
}

func (a answer) equal(b answer) bool {
	return a.errors == b.errors && slices.Equal(a.places, b.places) && slices.Equal(a.order, b.order) && a.count == b.count &&
		a.all == b.all && slices.Equal(a.can, b.can) && equal(a.done, b.done) && slices.Equal(a.steps, b.steps) && equal(a.stuck, b.stuck)
}

// someStrips returns strips that are flat, and others, of several sizes.
func someStrips() []fold.Strip {
	return append(stripsFrom([][]int{{1}, {2, 2}, {3, 1, 2}, {2, 1, 1, 2}, {1, 2, 3, 2}}), strip("vmvmm", 3, 1, 2, 2, 1, 3), strip("mvvmvm", 5, 1, 4, 2, 3, 3, 1))
}

// checkNothing checks that nothing comes with an error.
func (a answer) checkNothing(t *testing.T, s fold.Strip) {
	t.Helper()
	e := a.errors
	if e[1] != api.OK && len(a.places) > 0 || e[3] != api.OK && len(a.order) > 0 || e[4] != api.OK && a.count != 0 || e[5] != api.OK && a.all != 0 ||
		e[6] != api.OK && len(a.can) > 0 || e[7] != api.OK && !equal(a.done, fold.Strip{}) || e[8] != api.OK && len(a.steps) > 0 || e[10] != api.OK && !equal(a.stuck, fold.Strip{}) {
		t.Errorf("%v: %v", s, a)
	}
}

// P1, R1, R2: whatever comes, each function ends, the error of Check comes first, and nothing comes with an error.
func TestWhateverComes(t *testing.T) {
	strips := append(someStrips(),
		strip(strings.Repeat("v", 5000)), strip(strings.Repeat("v", 4999), make([]int, 5000)...), strip("vv", math.MaxInt, math.MaxInt, 2), strip("vv", math.MinInt, math.MinInt, 2))
	for _, x := range badStrips() {
		strips = append(strips, x.strip)
	}
	lists := [][]int{nil, list(), list(0), list(-1), list(0, 1, 2), list(2, 1, 0), list(1, 1, 1), list(math.MinInt, math.MaxInt), make([]int, 5000)}
	for _, s := range strips {
		for _, l := range lists {
			for _, step := range list(0, 1, -1, 6, 7, math.MinInt, math.MaxInt) {
				a := ask(s, l, step, l)
				a.checkNothing(t, s)
				if first := a.errors[0]; first != api.OK {
					want := slices.Repeat([]api.Errno{first}, len(a.errors))
					want[5] = a.errors[5] // All has nothing to do with the folds
					if !slices.Equal(a.errors[:], want) || first != api.ErrForm && a.errors[5] != first || first == api.ErrForm && a.errors[5] != api.OK {
						t.Errorf("%v: %v", s, a.errors)
					}
				}
			}
		}
	}
}

// R3: a nil list and one without elements are the same.
func TestNoList(t *testing.T) {
	for _, s := range []fold.Strip{exampleS(), exampleT(), strip("", 5)} {
		if a, b := ask(s, nil, 0, nil), ask(s, list(), 0, list()); !a.equal(b) {
			t.Errorf("%v: %v and %v", s, a, b)
		}
	}
	for _, folds := range []string{"", "v", "x"} {
		if a, b := ask(fold.Strip{Folds: folds}, nil, 0, nil), ask(fold.Strip{Lengths: list(), Folds: folds}, nil, 0, nil); !a.equal(b) {
			t.Errorf("no lengths: %v and %v", a, b)
		}
	}
}

// R4, R8: arguments are not changed, also behind their ends, and equal arguments give equal results.
func TestArguments(t *testing.T) {
	for _, folds := range []string{"vmvmvm", "vvmmvv", "mvvmmv"} {
		for _, whole := range [][]int{{3, 1, 2, 2, 1, 3, 4}, {1, 1, 1, 1, 1, 1, 1}, {4, 3, 2, 1, 2, 3, 4}} {
			for size := 1; size <= len(whole); size++ {
				lengths, order, steps := slices.Clone(whole), list(0, 1, 2, 3, 4, 5, 6), list(1, 1, 1, 0, 0, 0, 0)
				s := fold.Strip{Lengths: lengths[:size], Folds: folds[:size-1]}
				for step := range size {
					a := ask(s, order[:size], step, steps[:size-1])
					b := ask(strip(s.Folds, whole[:size]...), list(0, 1, 2, 3, 4, 5, 6)[:size], step, list(1, 1, 1, 0, 0, 0, 0)[:size-1])
					if !a.equal(b) {
						t.Errorf("%v: %v and %v", s, a, b)
					}
				}
				if !slices.Equal(lengths, whole) || !slices.Equal(order, list(0, 1, 2, 3, 4, 5, 6)) || !slices.Equal(steps, list(1, 1, 1, 0, 0, 0, 0)) {
					t.Errorf("%v became %v, %v, %v", whole, lengths, order, steps)
				}
			}
		}
	}
}

// R4: results are memory of their own.
func TestResultsAreNew(t *testing.T) {
	for _, s := range someStrips() {
		kept := strip(s.Folds, s.Lengths...)
		for step := range s.Lengths {
			a := ask(s, nil, step, nil)
			for _, l := range [][]int{a.order, a.can, a.done.Lengths, a.steps, a.stuck.Lengths} {
				before := ask(s, nil, step, nil)
				for i := range l[:cap(l)] {
					l[:cap(l)][i] = -9
				}
				if after := ask(s, nil, step, nil); !equal(s, kept) || !after.equal(before) {
					t.Fatalf("%v: what is done to results changes %v to %v", kept, before, after)
				}
			}
			clear(a.places)
			if b := ask(s, nil, step, nil); len(b.places) > 0 && b.places[0].Most != kept.Lengths[0] {
				t.Fatalf("%v: what is done to the places changes the next ones: %v", kept, b.places)
			}
			if !slices.Equal(a.stuck.Lengths, slices.Repeat(list(-9), len(a.stuck.Lengths))) || !slices.Equal(a.done.Lengths, slices.Repeat(list(-9), len(a.done.Lengths))) {
				t.Fatalf("%v: %v", kept, a)
			}
		}
	}
}
