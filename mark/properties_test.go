package mark_test

import (
	"slices"
	"testing"

	"tusche/api"
	"tusche/mark"
)

// P9.7: who is a member of all lean coalitions is guilty, and nobody else.
func TestGuiltyOfLean(t *testing.T) {
	for _, c := range codes() {
		for i, w := range wordsFor(c) {
			size := 1 + i%mark.MaxCustomers
			all := lean(t, c, w, size)
			l, e := mark.Guilty(c, w, size)
			if len(all) == 0 != (e == api.ErrLost) || len(all) > 0 && !slices.Equal(l, inAll(c, all)) {
				t.Fatalf("Guilty of %v: %v, %d: %v %d, Lean: %v", c, w, size, l, e, all)
			}
		}
	}
}

// P9.7, M1: for greater sizes there are no fewer lean coalitions, and nobody else becomes guilty.
func TestGreaterSizes(t *testing.T) {
	for i, c := range codes() {
		if len(c.Words) < 3 && i%7 != 0 {
			continue
		}
		for _, w := range wordsFor(c) {
			before := lean(t, c, w, 1)
			blamed, _ := mark.Guilty(c, w, 1)
			for size := 2; size <= len(c.Words); size++ {
				all := lean(t, c, w, size)
				fewer := slices.DeleteFunc(slices.Clone(all), func(coalition []int) bool { return len(coalition) == size })
				if !equalLists(fewer, before) {
					t.Fatalf("Lean of %v: %v: %v for %d, and before %v", c, w, all, size, before)
				}
				l, _ := mark.Guilty(c, w, size)
				if len(before) > 0 && slices.ContainsFunc(l, func(customer int) bool { return !slices.Contains(blamed, customer) }) {
					t.Fatalf("Guilty of %v: %v: %v for %d, and before %v", c, w, l, size, blamed)
				}
				before, blamed = all, l
			}
		}
	}
}

// P9.8, M3: a code convicts just if somebody is guilty of each copy that one or two can make.
func TestConvicts(t *testing.T) {
	sure := 0
	for i, c := range codes() {
		all := pairCopies(c)
		if len(all) > 1000 && i%9 != 0 {
			continue
		}
		want := true
		for _, m := range all {
			want = want && len(guilty(t, c, m.word, 2)) > 0
			if !want {
				break
			}
		}
		if _, e := mark.Doubtful(c); want != (e == api.ErrLost) {
			t.Fatalf("Doubtful of %v: %d", c, e)
		}
		if want {
			sure++
		}
	}
	if sure < 100 {
		t.Errorf("%d", sure)
	}
}

// P9.8: what doubts look like.
func TestFormsOfDoubts(t *testing.T) {
	for _, c := range codes() {
		d, e := mark.Doubtful(c)
		if e != api.OK {
			continue
		}
		members := slices.Concat(d.Coalitions...)
		different := slices.Clone(members)
		slices.Sort(different)
		different = slices.Compact(different)
		two := len(d.Coalitions) == 2 && len(different) == len(members)
		three := len(d.Coalitions) == 3 && len(members) == 6 && len(different) == 3
		if !two && !three {
			t.Fatalf("Doubtful of %v: %v", c, d)
		}
	}
}

// P9.9.
func TestNobodyIsFramed(t *testing.T) {
	for _, c := range codes() {
		if _, e := mark.Doubtful(c); e != api.ErrLost {
			continue
		}
		for size := 1; size <= 2; size++ {
			if l, n, e := mark.Frames(c, size); e != api.ErrNone {
				t.Fatalf("%v convicts, but Frames for %d: %v %d %d", c, size, l, n, e)
			}
		}
		if n, e := mark.Distance(c); e != api.ErrLost && n == 0 {
			t.Fatalf("%v convicts, but it has equal words", c)
		}
	}
}

// P9.10, M4: words that are far apart.
func TestFarApart(t *testing.T) {
	most := 0
	for _, c := range farApart() {
		if n, e := mark.Distance(c); e != api.OK || 4*n <= 3*places(c) {
			t.Fatalf("%v: %d", c, n)
		}
		most = max(most, len(c.Words))
		if d, e := mark.Doubtful(c); e != api.ErrLost {
			t.Fatalf("Doubtful of %v: %v %d", c, d, e)
		}
		for _, m := range pairCopies(c) {
			l := guilty(t, c, m.word, 2)
			for _, customer := range nearest(t, c, m.word) {
				if !slices.Contains(l, customer) {
					t.Fatalf("Nearest of %v: %v: %d, Guilty: %v", c, m.word, customer, l)
				}
			}
		}
	}
	if most < mark.MaxCustomers {
		t.Errorf("%d", most)
	}
}

// P9.11: the product, and one member more.
func TestProductOfCopies(t *testing.T) {
	for _, c := range bigCodes() {
		for i, coalition := range everyCoalition(c, mark.MaxCustomers) {
			if len(c.Words) > 6 && i%13 != 0 {
				continue
			}
			n := copies(t, c, coalition)
			if want := productOf(c, coalition); n != want {
				t.Fatalf("Copies of %v: %v: %d, want %d", c, coalition, n, want)
			}
			for member := range coalition {
				if others := less(coalition, member); len(others) > 0 && copies(t, c, others) > n {
					t.Fatalf("Copies of %v: %v: %d, without %d: %d", c, coalition, n, coalition[member], copies(t, c, others))
				}
			}
		}
	}
}

// productOf returns the product, over all places, of the number of different marks.
func productOf(c mark.Code, coalition []int) int {
	product := 1
	for place := range places(c) {
		var marks []int
		for _, customer := range coalition {
			marks = append(marks, c.Words[customer][place])
		}
		slices.Sort(marks)
		product *= len(slices.Compact(marks))
	}
	return product
}

// united returns the coalition with all members of two ones.
func united(a, b []int) []int {
	all := slices.Concat(a, b)
	slices.Sort(all)
	return slices.Compact(all)
}

// P9.12: copies that are mixed from copies.
func TestMixingAgain(t *testing.T) {
	for number, c := range bigCodes() {
		next := chance(number)
		coalitions := everyCoalition(c, 3)
		for range 20 {
			a, b := coalitions[next(len(coalitions))], coalitions[next(len(coalitions))]
			one, other := mixOf(c, a, next), mixOf(c, b, next)
			var w []int
			for place := range places(c) {
				w = append(w, [][]int{one, other}[next(2)][place])
			}
			if mark.Makes(c, a, one) != api.OK || mark.Makes(c, b, other) != api.OK || mark.Makes(c, united(a, b), w) != api.OK {
				t.Fatalf("%v: %v makes %v, %v makes %v, and both %v", c, a, one, b, other, w)
			}
		}
	}
}

// mixOf returns a copy that a coalition can make.
func mixOf(c mark.Code, coalition []int, next func(limit int) int) []int {
	var w []int
	for place := range places(c) {
		w = append(w, c.Words[coalition[next(len(coalition))]][place])
	}
	return w
}

// P9.12: what some can make, more can make as well.
func TestMoreMembers(t *testing.T) {
	for i, c := range smallCodes() {
		if i%5 != 0 {
			continue
		}
		for _, w := range everyWord(c.Marks, places(c)) {
			for _, a := range everyCoalition(c, 4) {
				for _, b := range everyCoalition(c, 4) {
					if mark.Makes(c, a, w) == api.OK && mark.Makes(c, united(a, b), w) != api.OK {
						t.Fatalf("%v: %v can make %v, but not with %v", c, a, w, b)
					}
				}
			}
		}
	}
}

// questionsOf returns questions about a code.
func questionsOf(c mark.Code, number int) []question {
	var all []question
	coalitions := everyCoalition(c, 3)
	for i, w := range wordsFor(c) {
		at := number + i
		doubt := mark.Doubt{Copy: w, Coalitions: lists(coalitions[at%len(coalitions)], coalitions[(3*at+1)%len(coalitions)])}
		all = append(all, question{c, coalitions[at%len(coalitions)], w, 1 + at%3, doubt})
	}
	return all
}

// sameButNames reports whether answers are the same, but for a copy of a doubt.
func (a answer) sameButNames(b answer, copied []int) bool {
	b.doubt.Copy = a.doubt.Copy
	return a.equal(b) && slices.Equal(a.doubt.Copy, copied)
}

// P9.13, M5: other names of marks.
func TestRenamed(t *testing.T) {
	for number, c := range codes() {
		if number%3 != 0 && len(c.Words) < 4 {
			continue
		}
		names := renaming(c, number)
		for _, q := range questionsOf(c, number) {
			other := question{renamed(c, number), q.coalition, renamedWord(q.word, names), q.size, mark.Doubt{Copy: renamedWord(q.doubt.Copy, names), Coalitions: q.doubt.Coalitions}}
			a, b := ask(q), ask(other)
			if !b.sameButNames(a, renamedWord(a.doubt.Copy, names)) {
				t.Fatalf("%v: %v, with other names %v: %v", q, a, other, b)
			}
		}
	}
}

// P9.13, M5: another order of places.
func TestMoved(t *testing.T) {
	for number, c := range codes() {
		if number%3 != 0 && len(c.Words) < 4 {
			continue
		}
		order := permuted(places(c), number)
		for _, q := range questionsOf(c, number) {
			other := question{moved(c, order), q.coalition, ordered(q.word, order), q.size, mark.Doubt{Copy: ordered(q.doubt.Copy, order), Coalitions: q.doubt.Coalitions}}
			a, b := ask(q), ask(other)
			copied := a.doubt.Copy
			if a.errors[9] == api.OK {
				copied = ordered(copied, order)
			}
			if !b.sameButNames(a, copied) {
				t.Fatalf("%v: %v, in another order %v: %v", q, a, other, b)
			}
		}
	}
}

// back returns coalitions for customers in the other order.
func back(c mark.Code, coalitions [][]int) [][]int {
	var all [][]int
	for _, coalition := range coalitions {
		var other []int
		for _, customer := range coalition {
			other = append(other, len(c.Words)-1-customer)
		}
		slices.Sort(other)
		all = append(all, other)
	}
	return all
}

// P9.13, M5: the other order of customers changes only their numbers.
func TestTurned(t *testing.T) {
	for number, c := range codes() {
		if number%3 != 0 && len(c.Words) < 4 {
			continue
		}
		for _, q := range questionsOf(c, number) {
			other := question{turned(c), back(c, lists(q.coalition))[0], q.word, q.size, mark.Doubt{Copy: q.doubt.Copy, Coalitions: back(c, q.doubt.Coalitions)}}
			a, b := ask(q), ask(other)
			if a.errors != b.errors || a.distance != b.distance || a.copies != b.copies || len(a.fewest) != len(b.fewest) || len(a.frames) != len(b.frames) {
				t.Fatalf("%v: %v, in the other order %v", q, a, b)
			}
			all := back(c, a.lean)
			slices.SortFunc(all, slices.Compare[[]int])
			if !equalLists(b.lean, all) || !equalLists(lists(b.guilty), back(c, lists(a.guilty))) || !equalLists(lists(b.nearest), back(c, lists(a.nearest))) {
				t.Fatalf("%v: %v, in the other order %v", q, a, b)
			}
		}
	}
}
