package mark

import "tusche/api"

// sets is what a coalition has: for each place, the set of the marks of its members, with a bit for each mark. Beyond the last place of its words, the sets are empty.
type sets [MaxPlaces]int

// marksIn is, for each set of marks, their number.
var marksIn = [1 << MaxMarks]int{0, 1, 1, 2, 1, 2, 2, 3, 1, 2, 2, 3, 2, 3, 3, 4}

// Makes checks whether a coalition can make a copy.
func Makes(c Code, coalition, word []int) api.Errno {
	if e := Check(c); e != api.OK {
		return e
	}
	if e := checkCoalition(c, coalition); e != api.OK {
		return e
	}
	if e := checkWord(c, word); e != api.OK {
		return e
	}
	if !canMake(c, coalition, word) {
		return api.ErrProof
	}
	return api.OK
}

// Copies returns how many copies a coalition can make.
func Copies(c Code, coalition []int) (int, api.Errno) {
	if e := Check(c); e != api.OK {
		return 0, e
	}
	if e := checkCoalition(c, coalition); e != api.OK {
		return 0, e
	}
	has := setsOf(c, coalition)
	copies := 1
	for place := range c.Words[0] {
		copies *= marksIn[has[place]]
	}
	return copies, api.OK
}

// canMake reports whether a coalition can make a word: it can if this word would add nothing to what it has.
func canMake(c Code, coalition, word []int) bool {
	has := setsOf(c, coalition)
	return has.with(word) == has
}

// setsOf returns what a coalition has.
func setsOf(c Code, coalition []int) sets {
	var has sets
	for _, customer := range coalition {
		has = has.with(c.Words[customer])
	}
	return has
}

// with returns the sets with the marks of one word more.
func (s sets) with(word []int) sets {
	for place, mark := range word {
		s[place] |= 1 << mark
	}
	return s
}

// and returns the sets of the marks that are in both.
func (s sets) and(other sets) sets {
	for place, set := range other {
		s[place] &= set
	}
	return s
}

// has reports whether a mark is in the set of a place.
func (s sets) has(place, mark int) bool {
	return s[place]>>mark&1 == 1
}
