package ink

import (
	"slices"

	"tusche/api"
)

// Fewest returns the fewest stones for a sketch.
func Fewest(p Palette, sketch []int) ([]int, api.Errno) {
	if e := Check(p); e != api.OK {
		return nil, e
	}
	if e := checkAscending(p, sketch); e != api.OK {
		return nil, e
	}
	sequence, found := shortest(inksOf(p), setOf(sketch).in)
	if !found {
		return nil, api.ErrLost
	}
	return sequence, api.OK
}

// Order returns the order of stones that gives the most colours.
func Order(p Palette, stones []int) (sequence []int, colours int, e api.Errno) {
	if e := checkStones(p, stones, MaxOrder); e != api.OK {
		return nil, 0, e
	}
	inks := inksOf(p)
	ascending := slices.Clone(stones)
	slices.Sort(ascending) // so that smaller orders are tried before greater ones
	var order []int
	var try func(left []int, given set)
	try = func(left []int, given set) {
		if len(left) == 0 && given.size() > colours {
			sequence, colours = slices.Clone(order), given.size()
		}
		for i, stone := range left {
			order = append(order, stone)
			try(slices.Concat(left[:i], left[i+1:]), given.printed(inks[stone]))
			order = order[:len(order)-1]
		}
	}
	try(ascending, blank)
	return sequence, colours, api.OK
}

// shortest returns, of the shortest sequences after which what is given is enough, the first one, and whether there is one.
// Sequences are looked at from the shortest ones on, and in ascending order. Of those that give the same, the first one is enough, since whatever follows adds the same to all of them.
func shortest(inks []ink, enough func(given set) bool) ([]int, bool) {
	met := map[set][]int{blank: nil}
	queue := []set{blank}
	for len(queue) > 0 {
		given := queue[0]
		queue = queue[1:]
		if enough(given) {
			return met[given], true
		}
		for number, stone := range inks {
			after := given.printed(stone)
			if _, known := met[after]; !known {
				met[after] = append(slices.Clone(met[given]), number)
				queue = append(queue, after)
			}
		}
	}
	return nil, false
}
