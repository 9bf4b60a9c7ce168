package cross

import "tusche/api"

// met is, for each distance, the pair that was met last with it, or [2]int{}, which is no pair: the numbers of a pair are different.
type met [MaxPlace + 1][2]int

// Twice returns two pairs with the same distance.
func Twice(rule []int) (one, two [2]int, e api.Errno) {
	if e := Check(rule); e != api.OK {
		return one, two, e
	}
	meetPairs(rule, func(pair, other [2]int) { one, two = pair, other })
	return one, two, passed(one, two)
}

// Around returns two arrows with the same way around a roller.
func Around(rule []int, size int) (one, two [2]int, e api.Errno) {
	if e := Check(rule); e != api.OK {
		return one, two, e
	}
	if !within(size, 2, MaxSize) || rule[len(rule)-1] >= size {
		return one, two, api.ErrBounds
	}
	meetArrows(rule, size, func(arrow, other [2]int) { one, two = arrow, other })
	return one, two, passed(one, two)
}

// passed returns ErrNone if no two pairs were passed on: those that are have different numbers.
func passed(one, two [2]int) api.Errno {
	if one == two {
		return api.ErrNone
	}
	return api.OK
}

// isClear reports whether a rule is clear.
func isClear(rule []int) bool {
	is := true
	meetPairs(rule, func(_, _ [2]int) { is = false })
	return is
}

// isClearAround reports whether a rule is clear around a roller.
func isClearAround(rule []int, size int) bool {
	is := true
	meetArrows(rule, size, func(_, _ [2]int) { is = false })
	return is
}

// meetPairs meets all pairs of a rule, and passes on those whose distances were met before. It goes from the last pair to the first one: so the last two that are passed on are the first ones with the same distance.
func meetPairs(rule []int, pass func(pair, other [2]int)) met {
	var m met
	for i := len(rule) - 1; i >= 0; i-- {
		for k := len(rule) - 1; k > i; k-- {
			m.meet([2]int{i, k}, rule[k]-rule[i], pass)
		}
	}
	return m
}

// meetArrows meets all arrows of a rule around a roller, as meetPairs does with pairs.
func meetArrows(rule []int, size int, pass func(arrow, other [2]int)) {
	var m met
	for i := len(rule) - 1; i >= 0; i-- {
		for k := len(rule) - 1; k >= 0; k-- {
			if i != k {
				m.meet([2]int{i, k}, (rule[k]-rule[i]+size)%size, pass)
			}
		}
	}
}

// meet meets a pair. If its distance was met before, it passes on this pair and the one that was met last.
func (m *met) meet(pair [2]int, distance int, pass func(pair, other [2]int)) {
	if m.has(distance) {
		pass(pair, m[distance])
	}
	m[distance] = pair
}

// has reports whether a distance was met.
func (m *met) has(distance int) bool {
	return m[distance] != [2]int{}
}
