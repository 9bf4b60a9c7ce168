package letters_test

import (
	"cmp"
	"maps"
	"slices"
	"strings"
	"testing"

	"tusche/api"
	"tusche/letters"
)

const names = "abcdef"

func list(l ...int) []int { return l }

// pair returns the pair of kinds that two names stand for.
func pair(kinds string) [2]int {
	return [2]int{int(kinds[0] - 'a'), int(kinds[1] - 'a')}
}

// office returns the office whose free pairs some names stand for.
func office(kinds int, free ...string) letters.Office {
	o := letters.Office{Kinds: kinds}
	for _, names := range free {
		o.Free = append(o.Free, pair(names))
	}
	return o
}

func exampleO() letters.Office { return office(4, "ac", "ad", "bd") }

// allPairs returns all pairs of kinds.
func allPairs(kinds int) [][2]int {
	var all [][2]int
	for x := range kinds {
		for y := x + 1; y < kinds; y++ {
			all = append(all, [2]int{x, y})
		}
	}
	return all
}

func allFree(kinds int) letters.Office {
	return letters.Office{Kinds: kinds, Free: allPairs(kinds)}
}

func allBound(kinds int) letters.Office {
	return letters.Office{Kinds: kinds}
}

// chance returns a function whose numbers follow from one number, and from no rule otherwise.
func chance(number int) func(limit int) int {
	state := uint32(number)
	return func(limit int) int {
		state = state*1664525 + 1013904223
		return int(state>>16) % limit
	}
}

// everyOffice returns all offices with so many kinds.
func everyOffice(kinds int) []letters.Office {
	var all []letters.Office
	pairs := allPairs(kinds)
	for set := range 1 << len(pairs) {
		o := letters.Office{Kinds: kinds}
		for i, p := range pairs {
			if set>>i&1 == 1 {
				o.Free = append(o.Free, p)
			}
		}
		all = append(all, o)
	}
	return all
}

// smallOffices returns all offices with at most three kinds, and others with four.
func smallOffices() []letters.Office {
	all := slices.Concat(everyOffice(1), everyOffice(2), everyOffice(3))
	return append(all, exampleO(), office(4, "ab", "bc", "cd", "da"), office(4, "ab", "cd"), office(4, "ab", "ac", "ad"))
}

// mixed returns an office with any free pairs, some of which name the greater kind first.
func mixed(kinds int, next func(limit int) int) letters.Office {
	o := letters.Office{Kinds: kinds}
	most := 1 + next(4)
	for _, p := range allPairs(kinds) {
		if next(5) >= most {
			continue
		}
		if next(2) == 0 {
			p[0], p[1] = p[1], p[0]
		}
		o.Free = slices.Insert(o.Free, next(len(o.Free)+1), p)
	}
	return o
}

// everyLog returns all logs with at most so many letters, the shorter ones first.
func everyLog(kinds, most int) []string {
	all := []string{""}
	from := 0
	for range most {
		to := len(all)
		for _, log := range all[from:to] {
			for kind := range kinds {
				all = append(all, log+names[kind:kind+1])
			}
		}
		from = to
	}
	return all
}

// mixedLog returns a log with any letters.
func mixedLog(kinds, size int, next func(limit int) int) string {
	log := ""
	for range size {
		kind := next(kinds)
		log += names[kind : kind+1]
	}
	return log
}

// areFree reports whether kinds are free of each other.
func areFree(o letters.Office, x, y int) bool {
	return slices.ContainsFunc(o.Free, func(p [2]int) bool { return p == [2]int{x, y} || p == [2]int{y, x} })
}

// kindAt returns the kind of a letter.
func kindAt(log string, i int) int { return int(log[i] - 'a') }

// canExchange reports whether there is an exchange at i.
func canExchange(o letters.Office, log string, i int) bool {
	return i >= 0 && i+1 < len(log) && areFree(o, kindAt(log, i), kindAt(log, i+1))
}

// exchanged returns a log after the exchange at i.
func exchanged(log string, i int) string {
	return log[:i] + log[i+1:i+2] + log[i:i+1] + log[i+2:]
}

// mostSame is how many logs of the same meaning the tests look at.
const mostSame = 2000

// class returns all logs that mean the same, with the fewest exchanges that lead to them. It returns nothing if there are too many.
func class(o letters.Office, log string) map[string]int {
	found := map[string]int{log: 0}
	waiting := []string{log}
	for len(waiting) > 0 && len(found) <= mostSame {
		next := waiting[0]
		waiting = waiting[1:]
		for i := range next {
			if !canExchange(o, next, i) {
				continue
			}
			other := exchanged(next, i)
			if _, is := found[other]; !is {
				found[other] = found[next] + 1
				waiting = append(waiting, other)
			}
		}
	}
	if len(found) > mostSame {
		return nil
	}
	return found
}

// members returns all logs that mean the same, in ascending order.
func members(o letters.Office, log string) []string {
	return slices.Sorted(maps.Keys(class(o, log)))
}

// shuffled returns a log that means the same, after many exchanges.
func shuffled(o letters.Office, log string, next func(limit int) int) string {
	for range 10 * len(log) {
		if i := next(len(log)); canExchange(o, log, i) {
			log = exchanged(log, i)
		}
	}
	return log
}

// one is an office and a log.
type one struct {
	o   letters.Office
	log string
}

// smallOnes returns all short logs of small offices.
func smallOnes(most int) []one {
	var all []one
	for _, o := range smallOffices() {
		for _, log := range everyLog(o.Kinds, most) {
			all = append(all, one{o, log})
		}
	}
	return all
}

// bigOnes returns logs of all sizes of offices of all sizes.
func bigOnes() []one {
	var all []one
	for number := range 900 {
		next := chance(number)
		kinds, size := 1+number%letters.MaxKinds, number/letters.MaxKinds%(letters.MaxLog+1)
		all = append(all, one{mixed(kinds, next), mixedLog(kinds, size, next)})
	}
	return all
}

// ones returns logs of all sizes that do not mean the same as too many others.
func ones() []one {
	return slices.DeleteFunc(append(smallOnes(4), bigOnes()...), func(x one) bool { return class(x.o, x.log) == nil })
}

// two is an office and two logs.
type two struct {
	o    letters.Office
	a, b string
}

// smallTwos returns all pairs of short logs of small offices.
func smallTwos() []two {
	var all []two
	for _, o := range smallOffices() {
		logs := everyLog(o.Kinds, 6-o.Kinds)
		for _, a := range logs {
			for _, b := range logs {
				all = append(all, two{o, a, b})
			}
		}
	}
	return all
}

// bigTwos returns pairs of longer logs: some mean the same, some nearly do, some are parts of others.
func bigTwos() []two {
	var all []two
	for number, x := range bigOnes() {
		next := chance(number + 7)
		other := shuffled(x.o, x.log, next)
		all = append(all, two{x.o, x.log, other})
		if len(x.log) < 2 {
			continue
		}
		i := next(len(x.log) - 1)
		cut := 1 + next(len(x.log)-1)
		all = append(all, two{x.o, x.log, exchanged(other, i)}, two{x.o, x.log, other[:i] + other[i+1:]}, two{x.o, x.log[:cut], other}, two{x.o, other, shuffled(x.o, x.log[:cut]+mixedLog(x.o.Kinds, letters.MaxLog-cut, next), next)})
	}
	return all
}

// twos returns pairs of logs of all sizes that do not mean the same as too many others.
func twos() []two {
	return slices.DeleteFunc(append(smallTwos(), bigTwos()...), func(x two) bool { return class(x.o, x.a) == nil || class(x.o, x.b) == nil })
}

// order returns, for each letter of a log, its place in another log that means the same: of letters of one kind the first one remains the first one.
func order(log, other string) []int {
	var places []int
	next := [letters.MaxKinds]int{}
	for i := range log {
		kind := kindAt(log, i)
		place := next[kind] + strings.IndexByte(other[next[kind]:], log[i])
		places = append(places, place)
		next[kind] = place + 1
	}
	return places
}

// turnedPairs returns how many pairs of letters are in another order in another log that means the same.
func turnedPairs(log, other string) int {
	turned := 0
	places := order(log, other)
	for i, place := range places {
		for _, later := range places[i+1:] {
			if later < place {
				turned++
			}
		}
	}
	return turned
}

// only returns a log without the letters of all kinds but two.
func only(log string, x, y int) string {
	return strings.Map(func(name rune) rune {
		if name != rune('a'+x) && name != rune('a'+y) {
			return -1
		}
		return name
	}, log)
}

// shorter compares logs by their sizes, and equally long ones by their bytes.
func shorter(a, b string) int {
	return cmp.Or(cmp.Compare(len(a), len(b)), cmp.Compare(a, b))
}

func same(t *testing.T, o letters.Office, a, b string) bool {
	t.Helper()
	is, e := letters.Same(o, a, b)
	if e != api.OK {
		t.Fatalf("Same with %v: %s and %s: %d", o, a, b, e)
	}
	return is
}

func swapsOf(t *testing.T, o letters.Office, a, b string) []int {
	t.Helper()
	swaps, e := letters.Swaps(o, a, b)
	if e != api.OK {
		t.Fatalf("Swaps with %v: %s and %s: %d", o, a, b, e)
	}
	return swaps
}

func first(t *testing.T, o letters.Office, log string) string {
	t.Helper()
	form, e := letters.First(o, log)
	if e != api.OK {
		t.Fatalf("First with %v: %s: %d", o, log, e)
	}
	return form
}

func steps(t *testing.T, o letters.Office, log string) []string {
	t.Helper()
	l, e := letters.Steps(o, log)
	if e != api.OK {
		t.Fatalf("Steps with %v: %s: %d", o, log, e)
	}
	return l
}

func count(t *testing.T, o letters.Office, log string) int {
	t.Helper()
	n, e := letters.Count(o, log)
	if e != api.OK {
		t.Fatalf("Count with %v: %s: %d", o, log, e)
	}
	return n
}

func before(t *testing.T, o letters.Office, log string, i, k int) bool {
	t.Helper()
	is, e := letters.Before(o, log, i, k)
	if e != api.OK {
		t.Fatalf("Before with %v: %s, %d, %d: %d", o, log, i, k, e)
	}
	return is
}

func rest(t *testing.T, o letters.Office, a, b string) string {
	t.Helper()
	log, e := letters.Rest(o, a, b)
	if e != api.OK {
		t.Fatalf("Rest with %v: %s and %s: %d", o, a, b, e)
	}
	return log
}

func common(t *testing.T, o letters.Office, a, b string) string {
	t.Helper()
	log, e := letters.Common(o, a, b)
	if e != api.OK {
		t.Fatalf("Common with %v: %s and %s: %d", o, a, b, e)
	}
	return log
}
