package cut_test

import (
	"math"
	"slices"
	"testing"

	"tusche/api"
	"tusche/cut"
)

// question is arguments for all functions.
type question struct {
	layout cut.Layout
	plan   []cut.Cut
	w, h   int
	kinds  []cut.Kind
}

// answer is everything that the functions return for a question. Its errors come in the order in which the chapter lists the functions.
type answer struct {
	cuts, plan  []cut.Cut
	blocked     cut.Label
	best, worth int
	layout      cut.Layout
	errors      [8]api.Errno
}

func ask(q question) answer {
	var a answer
	a.errors[0] = cut.Check(q.layout)
	a.cuts, a.errors[1] = cut.Cuts(q.layout)
	a.plan, a.errors[2] = cut.Plan(q.layout)
	a.errors[3] = cut.Verify(q.layout, q.plan)
	a.blocked, a.errors[4] = cut.Blocked(q.layout)
	a.best, a.errors[5] = cut.Best(q.w, q.h, q.kinds)
	a.layout, a.errors[6] = cut.Lay(q.w, q.h, q.kinds)
	a.worth, a.errors[7] = cut.Worth(q.layout, q.kinds)
	return a
}

func (a answer) equal(b answer) bool {
	return slices.Equal(a.cuts, b.cuts) && slices.Equal(a.plan, b.plan) && a.blocked == b.blocked && a.best == b.best && a.worth == b.worth && a.errors == b.errors &&
		a.layout.W == b.layout.W && a.layout.H == b.layout.H && slices.Equal(a.layout.Labels, b.layout.Labels)
}

// checkNothing checks that nothing comes with an error (R2).
func (a answer) checkNothing(t *testing.T, q question) {
	t.Helper()
	e := a.errors
	if e[1] != api.OK && len(a.cuts) > 0 || e[2] != api.OK && len(a.plan) > 0 || e[4] != api.OK && a.blocked != (cut.Label{}) || e[5] != api.OK && a.best != 0 ||
		e[6] != api.OK && (a.layout.W != 0 || a.layout.H != 0 || len(a.layout.Labels) > 0) || e[7] != api.OK && a.worth != 0 {
		t.Errorf("%v: %v", q, a)
	}
}

// P1, R1, R2: whatever comes, each function ends, and nothing comes with an error.
func TestWhateverComes(t *testing.T) {
	all := append(bigLayouts()[:100], smallLayouts()[:300]...)
	for _, x := range badLayouts() {
		all = append(all, x.layout)
	}
	plans := [][]cut.Cut{nil, cuts(up(1)), cuts(flat(1), up(1)), cuts(up(math.MinInt), flat(math.MaxInt)), slices.Repeat(cuts(flat(2), up(2)), 3000)}
	sales := badSales()
	sales = append(sales, badSale{5, 4, someKinds(6, 4, 1), api.OK}, badSale{12, 12, someKinds(6, 12, 2), api.OK})
	for i, l := range all {
		for j, plan := range plans {
			sale := sales[(i+j)%len(sales)]
			q := question{layout: l, plan: plan, w: sale.w, h: sale.h, kinds: sale.kinds}
			a := ask(q)
			a.checkNothing(t, q)
			if is := a.errors[0] == api.OK; is != (a.errors[1] == api.OK) || is == (a.errors[2] == a.errors[4]) || a.errors[5] != sale.want {
				t.Fatalf("%v: %v", q, a)
			}
		}
	}
}

// R3: a nil list and one without elements are the same.
func TestNoList(t *testing.T) {
	for w := range 14 {
		for h := range 14 {
			none := question{layout: cut.Layout{W: w, H: h}, w: w, h: h}
			empty := question{layout: cut.Layout{W: w, H: h, Labels: []cut.Label{}}, plan: cuts(), w: w, h: h, kinds: []cut.Kind{}}
			if a, b := ask(none), ask(empty); !a.equal(b) {
				t.Errorf("%d, %d: %v and %v", w, h, a, b)
			}
		}
	}
}

// cutOff returns a question whose lists have some sizes, and the same question with whole lists, which share their memory: they go on behind the ends of the former ones.
func cutOff(size int) (q, whole question) {
	l := divided(12, 10, 7+size%3, size%2 == 1)
	whole = question{layout: l, plan: squaresOf(l).cuts(cut.Label{W: 12, H: 10}), w: 5 + size, h: 4, kinds: someKinds(6, 4, 5)}
	whole.plan = append(whole.plan, up(3), flat(3), flat(8))
	q = whole
	q.layout.Labels = q.layout.Labels[:min(size, len(l.Labels))]
	q.plan = q.plan[:min(size, len(q.plan))]
	q.kinds = q.kinds[:min(size, 6)]
	return q, whole
}

// same reports whether the lists of questions are the same.
func same(a, b question) bool {
	return slices.Equal(a.layout.Labels, b.layout.Labels) && slices.Equal(a.plan, b.plan) && slices.Equal(a.kinds, b.kinds)
}

// R4, R8: arguments are not changed, also behind their ends, and equal arguments give equal results.
func TestArguments(t *testing.T) {
	for size := range 8 {
		q, whole := cutOff(size)
		a := ask(q)
		other, kept := cutOff(size)
		if !same(whole, kept) {
			t.Errorf("%v became %v", kept, whole)
		}
		for range 3 {
			if b := ask(other); !a.equal(b) {
				t.Errorf("%v: %v and %v", other, a, b)
			}
		}
	}
}

// R4: results are memory of their own.
func TestResultsAreNew(t *testing.T) {
	for size := range 8 {
		q, whole := cutOff(size)
		_, kept := cutOff(size)
		a, want := ask(q), ask(q)
		clear(a.cuts[:cap(a.cuts)])
		clear(a.plan[:cap(a.plan)])
		clear(a.layout.Labels[:cap(a.layout.Labels)])
		if b := ask(q); !b.equal(want) || !same(whole, kept) {
			t.Fatalf("%v: what is done to results changes %v to %v", q, want, b)
		}
	}
}
