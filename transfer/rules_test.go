package transfer_test

import (
	"math"
	"slices"
	"testing"

	"tusche/api"
	"tusche/transfer"
)

// question is arguments for all functions.
type question struct {
	chain, spoilt []int
	n, steps      int
	price         transfer.Price
}

// answer is everything that the functions return for a question.
type answer struct {
	row                   bool
	distance, count, cost int
	least                 int
	ways                  [][2]int
	lists                 [5][]int // of Chain, InRow, Reach, Without and Cheapest
	errors                [11]api.Errno
}

func ask(q question) answer {
	var a answer
	a.errors[0] = transfer.Check(q.chain)
	a.ways, a.errors[1] = transfer.Ways(q.chain)
	a.row, a.errors[2] = transfer.Row(q.chain)
	a.distance, a.errors[3] = transfer.Distance(q.n)
	a.lists[0], a.errors[4] = transfer.Chain(q.n)
	a.lists[1], a.errors[5] = transfer.InRow(q.n)
	a.count, a.errors[6] = transfer.Count(q.n)
	a.lists[2], a.errors[7] = transfer.Reach(q.steps)
	a.lists[3], a.errors[8] = transfer.Without(q.n, q.spoilt)
	a.cost, a.errors[9] = transfer.Cost(q.chain, q.price)
	a.lists[4], a.least, a.errors[10] = transfer.Cheapest(q.n, q.price)
	return a
}

func (a answer) equal(b answer) bool {
	return a.row == b.row && a.distance == b.distance && a.count == b.count && a.cost == b.cost && a.least == b.least &&
		slices.Equal(a.ways, b.ways) && slices.EqualFunc(a.lists[:], b.lists[:], slices.Equal[[]int]) && a.errors == b.errors
}

// checkNothing checks that nothing comes with an error (R2).
func (a answer) checkNothing(t *testing.T, q question) {
	t.Helper()
	e := a.errors
	if e[1] != api.OK && len(a.ways) > 0 || e[2] != api.OK && a.row || e[3] != api.OK && a.distance != 0 || e[4] != api.OK && len(a.lists[0]) > 0 ||
		e[5] != api.OK && len(a.lists[1]) > 0 || e[6] != api.OK && a.count != 0 || e[7] != api.OK && len(a.lists[2]) > 0 ||
		e[8] != api.OK && len(a.lists[3]) > 0 || e[9] != api.OK && a.cost != 0 || e[10] != api.OK && (len(a.lists[4]) > 0 || a.least != 0) {
		t.Errorf("%v: %v", q, a)
	}
}

// someLists are chains, and lists that are none.
func someLists() [][]int {
	all := append(long(), list(1), list(1, 2, 3, 4, 7), list(math.MinInt, math.MaxInt))
	for _, x := range badChains() {
		all = append(all, x.chain)
	}
	return all
}

// P1, R1, R2: whatever comes, each function ends, and nothing comes with an error.
func TestWhateverComes(t *testing.T) {
	numbers := append(notImages(), 1, 2, 7, 8, 31, 46)
	for _, l := range someLists() {
		for _, n := range numbers {
			for _, p := range append(badPrices(), transfer.Price{}, transfer.Price{Same: 1000, Two: 1000}) {
				q := question{chain: l, spoilt: l, n: n, steps: n, price: p}
				a := ask(q)
				a.checkNothing(t, q)
				if first := a.errors[0]; first != a.errors[1] || first != a.errors[2] || first != api.OK && first != a.errors[9] {
					t.Errorf("%v: %v", q, a.errors)
				}
				if is := n >= 1 && n <= 46; is != (a.errors[3] == api.OK) || is != (a.errors[4] == api.OK) || is != (a.errors[5] == api.OK) || is != (a.errors[6] == api.OK) {
					t.Errorf("%v: %v", q, a.errors)
				}
			}
		}
	}
}

// R3: a nil list and one without elements are the same.
func TestNoList(t *testing.T) {
	for n := 1; n <= 46; n++ {
		p := transfer.Price{Same: 2, Two: 3}
		if a, b := ask(question{n: n, price: p}), ask(question{chain: list(), spoilt: list(), n: n, price: p}); !a.equal(b) {
			t.Errorf("%d: %v and %v", n, a, b)
		}
	}
}

// cut returns a question whose lists have a size, and the same question with whole lists, which share their memory: they go on behind the ends of the former ones.
func cut(size int) (q, whole question) {
	whole = question{chain: list(1, 2, 3, 5, 8, 10, 13, 18, 26), spoilt: list(7, 4, 9, 4, 12, 40, -1, 6, 0), price: transfer.Price{Same: 3, Two: 2}}
	q = whole
	q.chain, q.spoilt = q.chain[:size], q.spoilt[:size]
	q.n, q.steps = 1+5*size, size%8
	return q, whole
}

// R4, R8: arguments are not changed, also behind their ends, and equal arguments give equal results.
func TestArguments(t *testing.T) {
	for size := range 10 {
		q, whole := cut(size)
		a := ask(q)
		other, kept := cut(size)
		if !slices.Equal(whole.chain, kept.chain) || !slices.Equal(whole.spoilt, kept.spoilt) {
			t.Errorf("%v became %v", kept, whole)
		}
		for range 3 {
			if b := ask(other); !a.equal(b) {
				t.Errorf("%v: %v and %v", other, a, b)
			}
		}
	}
}

// R4: results are memory of their own.
func TestResultsAreNew(t *testing.T) {
	for size := range 10 {
		q, whole := cut(size)
		_, kept := cut(size)
		a, want := ask(q), ask(q)
		for i, l := range a.lists {
			for j := range l[:cap(l)] {
				l[:cap(l)][j] = -9 - i
			}
		}
		for i := range a.ways[:cap(a.ways)] {
			a.ways[:cap(a.ways)][i] = [2]int{-9, -9}
		}
		for i, l := range a.lists {
			if !slices.Equal(l, slices.Repeat(list(-9-i), len(l))) {
				t.Fatalf("%v: two results share memory: %v", q, a)
			}
		}
		if b := ask(q); !b.equal(want) || !slices.Equal(whole.chain, kept.chain) || !slices.Equal(whole.spoilt, kept.spoilt) {
			t.Fatalf("%v: what is done to results changes %v to %v", q, want, b)
		}
	}
}
