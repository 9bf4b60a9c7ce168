package repeat

import "tusche/api"

// Wide returns the border with two periods that has the most figures. In it, figures are equal only where the periods ask for it.
func Wide(p, q, n int) (string, api.Errno) {
	if !upTo(n, MaxLength) || !upTo(p, n) || !upTo(q, n) {
		return "", api.ErrSize
	}
	firsts := make([]int, n) // by places: the first place that is known to have the same figure
	for place := range firsts {
		firsts[place] = place
	}
	repeatAfter(firsts, p)
	repeatAfter(firsts, q)
	return named(firsts), api.OK
}

// repeatAfter makes all places have the same figure as those that come a period later.
func repeatAfter(firsts []int, period int) {
	for place := range len(firsts) - period {
		unite(firsts, firsts[place], firsts[place+period])
	}
}

// unite makes all places that have one of two first places have the former one of them.
func unite(firsts []int, a, b int) {
	for place, first := range firsts {
		if first == a || first == b {
			firsts[place] = min(a, b)
		}
	}
}

// named returns a border with a new figure at each first place, in the order of the alphabet.
func named(firsts []int) string {
	figures := make([]byte, len(firsts))
	next := byte('a')
	for place, first := range firsts {
		if first == place {
			figures[place] = next
			next++
		} else {
			figures[place] = figures[first]
		}
	}
	return string(figures)
}
