package mark

import (
	"slices"

	"tusche/api"
)

// Distance returns the smallest distance of two words.
func Distance(c Code) (int, api.Errno) {
	if e := Check(c); e != api.OK {
		return 0, e
	}
	if len(c.Words) == 1 {
		return 0, api.ErrLost
	}
	smallest := MaxPlaces
	for i, word := range c.Words {
		for _, other := range c.Words[:i] {
			smallest = min(smallest, distance(word, other))
		}
	}
	return smallest, api.OK
}

// Nearest returns the customers whose words are nearest to a copy.
func Nearest(c Code, word []int) ([]int, api.Errno) {
	if e := checkCopy(c, word); e != api.OK {
		return nil, e
	}
	var distances []int
	for _, other := range c.Words {
		distances = append(distances, distance(word, other))
	}
	smallest := slices.Min(distances)
	var nearest []int
	for customer, far := range distances {
		if far == smallest {
			nearest = append(nearest, customer)
		}
	}
	return nearest, api.OK
}

// distance returns the number of places at which two words with equally many places differ.
func distance(a, b []int) int {
	places := 0
	for place, mark := range a {
		if mark != b[place] {
			places++
		}
	}
	return places
}
