package letters_test

import (
	"slices"
	"strings"
	"testing"

	"tusche/api"
	"tusche/letters"
)

// seenByTwo reports whether logs are equal without all letters of other kinds, for each two kinds that are bound to each other, and for each kind alone.
func seenByTwo(o letters.Office, a, b string) bool {
	return differOf(o, a, b) == nil
}

// P10.7, M4.
func TestTwoKinds(t *testing.T) {
	for _, x := range append(smallTwos(), bigTwos()...) {
		is := same(t, x.o, x.a, x.b)
		if is != seenByTwo(x.o, x.a, x.b) {
			t.Fatalf("Same with %v: %s and %s: %t", x.o, x.a, x.b, is)
		}
		if k, l, e := letters.Differ(x.o, x.a, x.b); e == api.OK && (is || k > l || areFree(x.o, k, l) || only(x.a, k, l) == only(x.b, k, l)) {
			t.Fatalf("Differ with %v: %s and %s: %d %d", x.o, x.a, x.b, k, l)
		}
	}
}

// P10.8, M6: forms are the same just if the meaning is.
func TestSameForms(t *testing.T) {
	for _, x := range append(smallTwos(), bigTwos()...) {
		is := same(t, x.o, x.a, x.b)
		if forms := first(t, x.o, x.a) == first(t, x.o, x.b); forms != is {
			t.Fatalf("First with %v: %s and %s: %t", x.o, x.a, x.b, forms)
		}
		if forms := slices.Equal(steps(t, x.o, x.a), steps(t, x.o, x.b)); forms != is {
			t.Fatalf("Steps with %v: %s and %s: %t", x.o, x.a, x.b, forms)
		}
		if is && count(t, x.o, x.a) != count(t, x.o, x.b) {
			t.Fatalf("Count with %v: %s and %s", x.o, x.a, x.b)
		}
	}
}

// P10.8, M6: forms of forms.
func TestFormsOfForms(t *testing.T) {
	for _, x := range append(smallOnes(5), bigOnes()...) {
		form, l := first(t, x.o, x.log), steps(t, x.o, x.log)
		row := strings.Join(l, "")
		if !same(t, x.o, x.log, form) || !same(t, x.o, x.log, row) {
			t.Fatalf("%v: %s, but %s and %v", x.o, x.log, form, l)
		}
		if first(t, x.o, form) != form || !slices.Equal(steps(t, x.o, row), l) {
			t.Fatalf("%v: forms of %s and %v", x.o, form, l)
		}
	}
}

// P10.8: what a step is: its letters are free of each other, and each is bound to one of the step before.
func TestFormsOfSteps(t *testing.T) {
	for _, x := range append(smallOnes(5), bigOnes()...) {
		l := steps(t, x.o, x.log)
		for i, step := range l {
			for k := range step {
				for m := range k {
					if !areFree(x.o, kindAt(step, m), kindAt(step, k)) || step[m] >= step[k] {
						t.Fatalf("Steps with %v: %s: %v", x.o, x.log, l)
					}
				}
				if i > 0 && !strings.ContainsFunc(l[i-1], func(name rune) bool { return !areFree(x.o, int(name-'a'), kindAt(step, k)) }) {
					t.Fatalf("Steps with %v: %s: %v", x.o, x.log, l)
				}
			}
		}
	}
}

// P10.9, M3: they lead from one to the other, and back.
func TestSwapsBack(t *testing.T) {
	for _, x := range append(smallTwos(), bigTwos()...) {
		if !same(t, x.o, x.a, x.b) {
			if _, e := letters.Swaps(x.o, x.a, x.b); e != api.ErrLost {
				t.Fatalf("Swaps with %v: %s and %s: %d", x.o, x.a, x.b, e)
			}
			continue
		}
		swaps := swapsOf(t, x.o, x.a, x.b)
		if e := letters.Verify(x.o, x.a, x.b, swaps); e != api.OK || len(swaps) != turnedPairs(x.a, x.b) {
			t.Fatalf("Swaps with %v: %s and %s: %v %d", x.o, x.a, x.b, swaps, e)
		}
		slices.Reverse(swaps)
		if e := letters.Verify(x.o, x.b, x.a, swaps); e != api.OK || len(swapsOf(t, x.o, x.b, x.a)) != len(swaps) {
			t.Fatalf("Verify with %v: %s and %s: %v %d", x.o, x.b, x.a, swaps, e)
		}
	}
}

// rowsOf returns, for each two letters of a log, whether a row of letters leads from the one to the other, each of them later and bound to the one before it.
func rowsOf(o letters.Office, log string) [letters.MaxLog][letters.MaxLog]bool {
	var rows [letters.MaxLog][letters.MaxLog]bool
	for k := range log {
		for i := k - 1; i >= 0; i-- {
			rows[i][k] = !areFree(o, kindAt(log, i), kindAt(log, k))
			for between := i + 1; between < k; between++ {
				rows[i][k] = rows[i][k] || rows[i][between] && !areFree(o, kindAt(log, between), kindAt(log, k))
			}
		}
	}
	return rows
}

// stepsBefore returns, for each letter of a log, the index of its step.
func stepsBefore(t *testing.T, o letters.Office, log string) []int {
	var at []int
	next := [letters.MaxKinds]int{}
	l := steps(t, o, log)
	for i := range log {
		kind := kindAt(log, i)
		for !strings.Contains(l[next[kind]], log[i:i+1]) {
			next[kind]++
		}
		at = append(at, next[kind])
		next[kind]++
	}
	return at
}

// P10.10, M1.
func TestRowsOfLetters(t *testing.T) {
	for _, x := range append(smallOnes(4), bigOnes()...) {
		rows, at := rowsOf(x.o, x.log), stepsBefore(t, x.o, x.log)
		for i := range x.log {
			for k := range x.log {
				if i == k {
					continue
				}
				is := before(t, x.o, x.log, i, k)
				if is != rows[i][k] || is && at[i] >= at[k] {
					t.Fatalf("Before with %v: %s, %d, %d: %t, steps %d and %d", x.o, x.log, i, k, is, at[i], at[k])
				}
			}
		}
	}
}

// P10.10: a letter remains itself if it is exchanged.
func TestBeforeOfOthers(t *testing.T) {
	for number, x := range bigOnes() {
		other := shuffled(x.o, x.log, chance(number))
		places := order(x.log, other)
		for i := range x.log {
			for k := range x.log {
				if i != k && before(t, x.o, x.log, i, k) != before(t, x.o, other, places[i], places[k]) {
					t.Fatalf("Before with %v: %s, %d, %d, and %s", x.o, x.log, i, k, other)
				}
			}
		}
	}
}

// P10.11, M6.
func TestRestBehind(t *testing.T) {
	for _, x := range append(smallTwos(), bigTwos()...) {
		log, e := letters.Rest(x.o, x.a, x.b)
		if e == api.OK && (!same(t, x.o, x.a+log, x.b) || first(t, x.o, log) != log) {
			t.Fatalf("Rest with %v: %s and %s: %s", x.o, x.a, x.b, log)
		}
		if len(x.a+x.b) <= letters.MaxLog {
			if log, want := rest(t, x.o, x.a, x.a+x.b), first(t, x.o, x.b); log != want {
				t.Fatalf("Rest with %v: %s and %s: %s, want %s", x.o, x.a, x.a+x.b, log, want)
			}
		}
		if rest(t, x.o, x.a, x.a) != "" || rest(t, x.o, "", x.a) != first(t, x.o, x.a) {
			t.Fatalf("Rest with %v: %s", x.o, x.a)
		}
	}
}

// P10.11: what is put behind a log and exchanged with it is found again.
func TestRestAgain(t *testing.T) {
	for number, x := range bigOnes() {
		next := chance(number)
		cut := next(len(x.log) + 1)
		all := shuffled(x.o, x.log, next)
		if log, want := rest(t, x.o, x.log[:cut], all), first(t, x.o, x.log[cut:]); log != want {
			t.Fatalf("Rest with %v: %s and %s: %s, want %s", x.o, x.log[:cut], all, log, want)
		}
	}
}

// P10.12.
func TestRestsOfCommon(t *testing.T) {
	for _, x := range append(smallTwos(), bigTwos()...) {
		log := common(t, x.o, x.a, x.b)
		if other := common(t, x.o, x.b, x.a); other != log || first(t, x.o, log) != log {
			t.Fatalf("Common with %v: %s and %s: %s and %s", x.o, x.a, x.b, log, other)
		}
		one, other := rest(t, x.o, log, x.a), rest(t, x.o, log, x.b)
		if again := common(t, x.o, one, other); again != "" {
			t.Fatalf("Common with %v: %s and %s: %s, and then %s", x.o, x.a, x.b, log, again)
		}
		if _, e := letters.Rest(x.o, x.a, x.b); (e == api.OK) != (log == first(t, x.o, x.a)) {
			t.Fatalf("Common with %v: %s and %s: %s, Rest: %d", x.o, x.a, x.b, log, e)
		}
	}
}

// P10.12: a beginning that is put before logs is common to them.
func TestCommonAgain(t *testing.T) {
	for number, x := range bigOnes() {
		next := chance(number)
		cut := next(len(x.log) + 1)
		a := shuffled(x.o, x.log, next)
		b := shuffled(x.o, x.log[:cut]+mixedLog(x.o.Kinds, len(x.log)-cut, next), next)
		log := common(t, x.o, a, b)
		rest(t, x.o, x.log[:cut], log)
	}
}

// withFree returns an office in which one pair more is free.
func withFree(o letters.Office, p [2]int) letters.Office {
	return letters.Office{Kinds: o.Kinds, Free: append(slices.Clone(o.Free), p)}
}

// P10.13, M1: if a pair more is free, logs that meant the same still do.
func TestMoreFree(t *testing.T) {
	for _, x := range append(smallTwos(), bigTwos()...) {
		is, n := same(t, x.o, x.a, x.b), count(t, x.o, x.a)
		for _, p := range allPairs(x.o.Kinds) {
			if areFree(x.o, p[0], p[1]) {
				continue
			}
			o := withFree(x.o, p)
			if is && !same(t, o, x.a, x.b) || count(t, o, x.a) < n {
				t.Fatalf("with %v: %s and %s: %t, Count %d, then %d", x.o, x.a, x.b, is, n, count(t, o, x.a))
			}
		}
	}
}

// sorted returns the letters of a log in ascending order.
func sorted(log string) string {
	l := []byte(log)
	slices.Sort(l)
	return string(l)
}

// P10.13: no kinds are free of each other, or all are.
func TestAllBoundAndAllFree(t *testing.T) {
	for _, x := range append(smallTwos(), bigTwos()...) {
		if same(t, allBound(x.o.Kinds), x.a, x.b) != (x.a == x.b) || same(t, allFree(x.o.Kinds), x.a, x.b) != (sorted(x.a) == sorted(x.b)) {
			t.Fatalf("%d kinds: %s and %s", x.o.Kinds, x.a, x.b)
		}
		if count(t, allBound(x.o.Kinds), x.a) != 1 || count(t, allFree(x.o.Kinds), x.a) != ordersOf(x.a) {
			t.Fatalf("Count with %d kinds: %s", x.o.Kinds, x.a)
		}
	}
}

// ordersOf returns in how many orders the letters of a log can be.
func ordersOf(log string) int {
	orders := 1
	for i := range log {
		orders = orders * (i + 1) / strings.Count(log[:i+1], log[i:i+1])
	}
	return orders
}

// renamed returns a log with other names of kinds.
func renamed(log string, kinds []int) string {
	return strings.Map(func(name rune) rune { return rune('a' + kinds[name-'a']) }, log)
}

// renaming returns new numbers for the kinds of an office, and the office with them.
func renaming(o letters.Office, next func(limit int) int) ([]int, letters.Office) {
	var kinds []int
	for kind := range o.Kinds {
		kinds = slices.Insert(kinds, next(kind+1), kind)
	}
	other := letters.Office{Kinds: o.Kinds}
	for _, p := range o.Free {
		other.Free = append(other.Free, [2]int{kinds[p[0]], kinds[p[1]]})
	}
	return kinds, other
}

// M5: other names of kinds change only the names, and which order is the smallest one.
func TestRenamed(t *testing.T) {
	for number, x := range append(bigTwos(), smallTwos()...) {
		next := chance(number)
		kinds, o := renaming(x.o, next)
		q := question{x.o, x.a, x.b, next(len(x.a) + 1), next(len(x.a) + 1), nil}
		other := question{o, renamed(x.a, kinds), renamed(x.b, kinds), q.i, q.k, nil}
		a, b := ask(q), ask(other)
		if a.errors != b.errors || a.same != b.same || a.before != b.before || a.count != b.count || !slices.Equal(a.swaps, b.swaps) {
			t.Fatalf("%v: %v, with other names %v", q, a, b)
		}
		if first(t, o, renamed(a.first, kinds)) != b.first || first(t, o, renamed(a.rest, kinds)) != b.rest || first(t, o, renamed(a.common, kinds)) != b.common {
			t.Fatalf("%v: %v, with other names %v", q, a, b)
		}
		for i, step := range a.steps {
			if sorted(renamed(step, kinds)) != b.steps[i] {
				t.Fatalf("%v: %v, with other names %v", q, a, b)
			}
		}
	}
}

// M5: the order of the pairs, and which of both kinds is named first, mean nothing.
func TestOrderOfPairs(t *testing.T) {
	for number, x := range append(bigTwos(), smallTwos()...) {
		next := chance(number)
		o := letters.Office{Kinds: x.o.Kinds}
		for _, p := range x.o.Free {
			if next(2) == 0 {
				p[0], p[1] = p[1], p[0]
			}
			o.Free = slices.Insert(o.Free, next(len(o.Free)+1), p)
		}
		q := question{x.o, x.a, x.b, next(len(x.a) + 1), next(len(x.a) + 1), list(0)}
		other := q
		other.o = o
		if a, b := ask(q), ask(other); !a.equal(b) {
			t.Fatalf("%v: %v, in another order %v", q, a, b)
		}
	}
}
