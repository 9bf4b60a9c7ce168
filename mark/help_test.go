package mark_test

import (
	"maps"
	"slices"
	"testing"

	"tusche/api"
	"tusche/mark"
)

func list(l ...int) []int { return l }

func lists(l ...[]int) [][]int { return l }

// word returns the word that some digits stand for.
func word(digits string) []int {
	var w []int
	for i := range len(digits) {
		w = append(w, int(digits[i]-'0'))
	}
	return w
}

// code returns the code whose words some digits stand for.
func code(marks int, words ...string) mark.Code {
	c := mark.Code{Marks: marks}
	for _, digits := range words {
		c.Words = append(c.Words, word(digits))
	}
	return c
}

func exampleC() mark.Code { return code(3, "000", "111", "222") }

func exampleD() mark.Code { return code(2, "00", "01", "10", "11") }

// triangle is a code whose doubts are all of three pairs of its customers.
func triangle() mark.Code { return code(2, "110", "101", "011") }

// chance returns a function whose numbers follow from one number, and from no rule otherwise.
func chance(number int) func(limit int) int {
	state := uint32(number)
	return func(limit int) int {
		state = state*1664525 + 1013904223
		return int(state>>16) % limit
	}
}

// everyWord returns all words with so many places, in ascending order.
func everyWord(marks, places int) [][]int {
	all := lists(nil)
	for range places {
		var longer [][]int
		for _, w := range all {
			for m := range marks {
				longer = append(longer, append(slices.Clone(w), m))
			}
		}
		all = longer
	}
	return all
}

// everyCode returns all codes of a size.
func everyCode(marks, customers, places int) []mark.Code {
	words := everyWord(marks, places)
	all := []mark.Code{{Marks: marks}}
	for range customers {
		var longer []mark.Code
		for _, c := range all {
			for _, w := range words {
				longer = append(longer, mark.Code{Marks: marks, Words: append(slices.Clone(c.Words), w)})
			}
		}
		all = longer
	}
	return all
}

// smallCodes returns all codes of some small sizes.
func smallCodes() []mark.Code {
	var all []mark.Code
	for _, size := range [][3]int{{2, 1, 1}, {2, 2, 1}, {2, 3, 1}, {2, 1, 2}, {2, 2, 2}, {2, 3, 2}, {2, 4, 2}, {2, 1, 3}, {2, 2, 3}, {2, 3, 3}, {3, 1, 1}, {3, 2, 1}, {3, 3, 1}, {3, 1, 2}, {3, 2, 2}, {3, 3, 2}, {3, 2, 3}, {4, 3, 1}, {4, 4, 1}} {
		all = append(all, everyCode(size[0], size[1], size[2])...)
	}
	return all
}

// mixed returns a code with any marks.
func mixed(marks, customers, places, number int) mark.Code {
	next := chance(number)
	c := mark.Code{Marks: marks}
	for range customers {
		var w []int
		for range places {
			w = append(w, next(marks))
		}
		c.Words = append(c.Words, w)
	}
	return c
}

// sized returns a code of each size, with any marks.
func sized() []mark.Code {
	var all []mark.Code
	for marks := 2; marks <= mark.MaxMarks; marks++ {
		for customers := 1; customers <= mark.MaxCustomers; customers++ {
			for places := 1; places <= mark.MaxPlaces; places++ {
				all = append(all, mixed(marks, customers, places, 100*marks+10*customers+places))
			}
		}
	}
	return all
}

// apart returns a code of words, as many as there are on the way through all words in ascending order, each two of which have at least some distance.
func apart(marks, places, distance int) mark.Code {
	c := mark.Code{Marks: marks}
	for _, w := range everyWord(marks, places) {
		near := slices.ContainsFunc(c.Words, func(other []int) bool { return distanceOf(w, other) < distance })
		if !near && len(c.Words) < mark.MaxCustomers {
			c.Words = append(c.Words, w)
		}
	}
	return c
}

// farApart returns codes each two of whose words differ at more than three quarters of all places.
func farApart() []mark.Code {
	var all []mark.Code
	for marks := 2; marks <= mark.MaxMarks; marks++ {
		for places := 1; places <= mark.MaxPlaces; places++ {
			c := apart(marks, places, places*3/4+1)
			all = append(all, c, renamed(c, marks*places), turned(c))
		}
	}
	return all
}

// lessApart returns codes whose words differ at fewer places.
func lessApart() []mark.Code {
	var all []mark.Code
	for marks := 2; marks <= mark.MaxMarks; marks++ {
		for places := 2; places <= mark.MaxPlaces; places++ {
			all = append(all, apart(marks, places, places/2), renamed(apart(marks, places, places*3/4), places))
		}
	}
	return all
}

// bigCodes returns codes of all sizes.
func bigCodes() []mark.Code {
	return slices.Concat(sized(), farApart(), lessApart(), []mark.Code{exampleC(), exampleD(), triangle(), code(4, "00000000", "11111111", "22222222", "33333333"), code(2, "1100", "1010", "0110", "0001")})
}

// codes returns codes of all sizes.
func codes() []mark.Code {
	return append(smallCodes(), bigCodes()...)
}

// places returns how many places a code has.
func places(c mark.Code) int {
	return len(c.Words[0])
}

// wordsFor returns words for a code: those of its customers, mixed ones, and others.
func wordsFor(c mark.Code) [][]int {
	if len(c.Words) <= 4 && places(c) <= 3 {
		return everyWord(c.Marks, places(c))
	}
	all := slices.Clone(c.Words)
	next := chance(len(c.Words) + places(c))
	for kind := range 6 {
		var w []int
		for at := range places(c) {
			switch kind {
			case 0, 1, 2, 3:
				w = append(w, c.Words[next(1+kind*3)%len(c.Words)][at])
			default:
				w = append(w, next(c.Marks))
			}
		}
		all = append(all, w)
	}
	return all
}

// permuted returns the first numbers in another order.
func permuted(limit, number int) []int {
	next := chance(number)
	var all []int
	for n := range limit {
		all = slices.Insert(all, next(n+1), n)
	}
	return all
}

// renaming is, for each place, the new names of its marks.
func renaming(c mark.Code, number int) [][]int {
	var all [][]int
	for place := range places(c) {
		all = append(all, permuted(c.Marks, 31*number+place))
	}
	return all
}

// renamedWord returns a word with other names.
func renamedWord(w []int, names [][]int) []int {
	var other []int
	for place, m := range w {
		other = append(other, names[place][m])
	}
	return other
}

// renamed returns a code with other names of the marks at each place.
func renamed(c mark.Code, number int) mark.Code {
	other := mark.Code{Marks: c.Marks}
	for _, w := range c.Words {
		other.Words = append(other.Words, renamedWord(w, renaming(c, number)))
	}
	return other
}

// ordered returns the elements of a list in another order.
func ordered(l, order []int) []int {
	var other []int
	for _, at := range order {
		other = append(other, l[at])
	}
	return other
}

// moved returns a code with its places in another order.
func moved(c mark.Code, order []int) mark.Code {
	other := mark.Code{Marks: c.Marks}
	for _, w := range c.Words {
		other.Words = append(other.Words, ordered(w, order))
	}
	return other
}

// turned returns a code with its customers from the last one to the first one.
func turned(c mark.Code) mark.Code {
	other := mark.Code{Marks: c.Marks, Words: slices.Clone(c.Words)}
	slices.Reverse(other.Words)
	return other
}

// distanceOf is the chapter's definition.
func distanceOf(a, b []int) int {
	differ := 0
	for i := range a {
		if a[i] != b[i] {
			differ++
		}
	}
	return differ
}

// everyCoalition returns all coalitions with at most so many members, in ascending order.
func everyCoalition(c mark.Code, size int) [][]int {
	var all [][]int
	for bits := 1; bits < 1<<len(c.Words); bits++ {
		var members []int
		for customer := range c.Words {
			if bits>>customer&1 == 1 {
				members = append(members, customer)
			}
		}
		if len(members) <= size {
			all = append(all, members)
		}
	}
	slices.SortFunc(all, slices.Compare[[]int])
	return all
}

// canMake is the chapter's definition.
func canMake(c mark.Code, coalition, w []int) bool {
	for place, m := range w {
		if !slices.ContainsFunc(coalition, func(customer int) bool { return c.Words[customer][place] == m }) {
			return false
		}
	}
	return true
}

// makersOf returns all coalitions with at most so many members that can make a word, in ascending order.
func makersOf(c mark.Code, w []int, size int) [][]int {
	return slices.DeleteFunc(everyCoalition(c, size), func(coalition []int) bool { return !canMake(c, coalition, w) })
}

// less returns a coalition without one of its members.
func less(coalition []int, i int) []int {
	return slices.Delete(slices.Clone(coalition), i, i+1)
}

// isLean is the chapter's definition.
func isLean(c mark.Code, coalition, w []int) bool {
	is := canMake(c, coalition, w)
	for i := range coalition {
		is = is && !canMake(c, less(coalition, i), w)
	}
	return is
}

// isInAll reports whether a customer is a member of all of some coalitions.
func isInAll(coalitions [][]int, customer int) bool {
	return !slices.ContainsFunc(coalitions, func(coalition []int) bool { return !slices.Contains(coalition, customer) })
}

// inAll returns all customers of a code that are members of all of some coalitions.
func inAll(c mark.Code, coalitions [][]int) []int {
	var all []int
	for customer := range c.Words {
		if isInAll(coalitions, customer) {
			all = append(all, customer)
		}
	}
	return all
}

// copiesOf returns all copies that a coalition can make, in ascending order.
func copiesOf(c mark.Code, coalition []int) [][]int {
	all := lists(nil)
	for place := range places(c) {
		var longer [][]int
		for _, w := range all {
			for m := range c.Marks {
				if slices.ContainsFunc(coalition, func(customer int) bool { return c.Words[customer][place] == m }) {
					longer = append(longer, append(slices.Clone(w), m))
				}
			}
		}
		all = longer
	}
	return all
}

// numberOf returns the number that a word is, if its marks are digits.
func numberOf(w []int) int {
	number := 0
	for _, m := range w {
		number = number*mark.MaxMarks + m
	}
	return number
}

// maker is what all coalitions of at most two members have in common that can make a word: a bit for each customer.
type maker struct {
	word []int
	bits int
}

// pairCopies returns all copies that a coalition of at most two members can make, in ascending order.
func pairCopies(c mark.Code) []maker {
	found := map[int]maker{}
	for _, coalition := range everyCoalition(c, 2) {
		bits := 0
		for _, customer := range coalition {
			bits |= 1 << customer
		}
		for _, w := range copiesOf(c, coalition) {
			other, is := found[numberOf(w)]
			if !is {
				other = maker{w, 1<<len(c.Words) - 1}
			}
			other.bits &= bits
			found[numberOf(w)] = other
		}
	}
	var all []maker
	for _, number := range slices.Sorted(maps.Keys(found)) {
		all = append(all, found[number])
	}
	return all
}

// convicts is the chapter's definition.
func convicts(c mark.Code) bool {
	return !slices.ContainsFunc(pairCopies(c), func(m maker) bool { return m.bits == 0 })
}

// equalLists reports whether lists of lists are the same.
func equalLists(a, b [][]int) bool {
	return slices.EqualFunc(a, b, slices.Equal[[]int])
}

// isNone reports whether a doubt has nothing.
func isNone(d mark.Doubt) bool {
	return len(d.Copy) == 0 && len(d.Coalitions) == 0
}

func distance(t *testing.T, c mark.Code) int {
	t.Helper()
	n, e := mark.Distance(c)
	if e != api.OK {
		t.Fatalf("Distance of %v: %d", c, e)
	}
	return n
}

func copies(t *testing.T, c mark.Code, coalition []int) int {
	t.Helper()
	n, e := mark.Copies(c, coalition)
	if e != api.OK {
		t.Fatalf("Copies of %v: %v: %d", c, coalition, e)
	}
	return n
}

func lean(t *testing.T, c mark.Code, w []int, size int) [][]int {
	t.Helper()
	l, e := mark.Lean(c, w, size)
	if e != api.OK {
		t.Fatalf("Lean of %v: %v, %d: %d", c, w, size, e)
	}
	return l
}

func guilty(t *testing.T, c mark.Code, w []int, size int) []int {
	t.Helper()
	l, e := mark.Guilty(c, w, size)
	if e != api.OK {
		t.Fatalf("Guilty of %v: %v, %d: %d", c, w, size, e)
	}
	return l
}

func nearest(t *testing.T, c mark.Code, w []int) []int {
	t.Helper()
	l, e := mark.Nearest(c, w)
	if e != api.OK {
		t.Fatalf("Nearest of %v: %v: %d", c, w, e)
	}
	return l
}
