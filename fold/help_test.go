package fold_test

import (
	"slices"
	"strings"
	"testing"

	"tusche/api"
	"tusche/fold"
)

func list(l ...int) []int { return l }

// strip returns a strip; its lengths are memory of its own.
func strip(folds string, lengths ...int) fold.Strip {
	return fold.Strip{Lengths: slices.Clone(lengths), Folds: folds}
}

// exampleS and exampleT are S and T of the chapter's examples.
func exampleS() fold.Strip { return strip("vm", 3, 1, 2) }

func exampleT() fold.Strip { return strip("vvv", 2, 1, 1, 2) }

func equal(a, b fold.Strip) bool {
	return slices.Equal(a.Lengths, b.Lengths) && a.Folds == b.Folds
}

// ordersOf returns all lists of some segments, each of them once, in ascending order.
func ordersOf(size int) [][]int {
	var all [][]int
	var fill func(order []int)
	fill = func(order []int) {
		if len(order) == size {
			all = append(all, slices.Clone(order))
		}
		for segment := range size {
			if !slices.Contains(order, segment) {
				fill(append(order, segment))
			}
		}
	}
	fill(nil)
	return all
}

// lengthsUpTo returns all lists of lengths from 1 to most.
func lengthsUpTo(size, most int) [][]int {
	if size == 0 {
		return [][]int{nil}
	}
	var all [][]int
	for _, head := range lengthsUpTo(size-1, most) {
		for length := 1; length <= most; length++ {
			all = append(all, append(slices.Clone(head), length))
		}
	}
	return all
}

// shortLengths returns all lists of up to 5 small lengths.
func shortLengths() [][]int {
	return slices.Concat(lengthsUpTo(1, 3), lengthsUpTo(2, 4), lengthsUpTo(3, 4), lengthsUpTo(4, 3), lengthsUpTo(5, 2),
		[][]int{{3, 1, 2, 3, 1}, {2, 3, 1, 1, 2}, {1, 3, 3, 2, 1}, {4, 1, 3, 2, 2}, {5, 4, 3, 2, 1}, {1, 2, 3, 4, 5}, {3, 1, 4, 1, 3}, {150, 50, 50, 50, 50}})
}

// longLengths returns some lists of 6 and 7 lengths.
func longLengths() [][]int {
	return [][]int{
		{1, 1, 1, 1, 1, 1}, {2, 1, 1, 1, 1, 2}, {2, 1, 2, 1, 2, 1}, {3, 1, 2, 1, 3, 2}, {1, 2, 3, 3, 2, 1}, {3, 2, 1, 1, 2, 3}, {4, 2, 2, 1, 1, 3}, {5, 1, 4, 2, 3, 3}, {90, 20, 30, 70, 60, 80},
		{1, 1, 1, 1, 1, 1, 1}, {2, 1, 1, 1, 1, 1, 2}, {1, 2, 1, 2, 1, 2, 1}, {2, 1, 2, 1, 2, 1, 2}, {3, 1, 2, 1, 1, 2, 3}, {1, 2, 3, 4, 3, 2, 1}, {4, 3, 2, 1, 2, 3, 4}, {3, 3, 1, 2, 1, 3, 3}, {5, 2, 1, 3, 1, 2, 4}, {100, 40, 20, 60, 20, 40, 70},
	}
}

// manyLengths returns lists of lengths of all sizes.
func manyLengths() [][]int {
	return slices.Concat(shortLengths(), longLengths())
}

// foldsOf returns all folds of some creases.
func foldsOf(creases int) []string {
	if creases == 0 {
		return []string{""}
	}
	var all []string
	for _, head := range foldsOf(creases - 1) {
		all = append(all, head+"m", head+"v")
	}
	return all
}

// stripsOf returns all strips with some lengths.
func stripsOf(lengths []int) []fold.Strip {
	var all []fold.Strip
	for _, folds := range foldsOf(len(lengths) - 1) {
		all = append(all, strip(folds, lengths...))
	}
	return all
}

// stripsFrom returns all strips with one of some lists of lengths.
func stripsFrom(lengths [][]int) []fold.Strip {
	var all []fold.Strip
	for _, l := range lengths {
		all = append(all, stripsOf(l)...)
	}
	return all
}

// ends returns where segments begin, and where the last one ends.
func ends(lengths []int) []int {
	at := []int{0}
	way := 1
	for i, length := range lengths {
		at = append(at, at[i]+way*length)
		way = -way
	}
	return at
}

// turnsOf returns the folds that an order needs, as the chapter defines it.
func turnsOf(order []int) string {
	var folds strings.Builder
	for i := range len(order) - 1 {
		higher := slices.Index(order, i+1) > slices.Index(order, i)
		if higher == (i%2 == 0) {
			folds.WriteByte('v')
		} else {
			folds.WriteByte('m')
		}
	}
	return folds.String()
}

// between reports whether a segment lies between both segments of a crease.
func between(order []int, segment, crease int) bool {
	at, a, b := slices.Index(order, segment), slices.Index(order, crease), slices.Index(order, crease+1)
	return min(a, b) < at && at < max(a, b)
}

// passes reports whether no segment of an order goes through a crease, and no crease through another one, as the chapter defines it.
func passes(lengths, order []int) bool {
	at := ends(lengths)
	for c := range len(lengths) - 1 {
		point := at[c+1]
		for s := range lengths {
			if min(at[s], at[s+1]) < point && point < max(at[s], at[s+1]) && between(order, s, c) {
				return false
			}
		}
		for d := range len(lengths) - 1 {
			if d != c && d%2 == c%2 && at[d+1] == point && between(order, d, c) != between(order, d+1, c) {
				return false
			}
		}
	}
	return true
}

// foldingsOf returns the foldings of all strips with some lengths, by their folds, in ascending order.
func foldingsOf(lengths []int) map[string][][]int {
	all := map[string][][]int{}
	for _, order := range ordersOf(len(lengths)) {
		if passes(lengths, order) {
			folds := turnsOf(order)
			all[folds] = append(all[folds], order)
		}
	}
	return all
}

// taken returns the strip after a step, and whether it can be done, as the chapter defines it.
func taken(s fold.Strip, step int) (fold.Strip, bool) {
	last := len(s.Lengths) - 1
	switch {
	case last == 0:
		return fold.Strip{}, false
	case step == 0:
		return strip(s.Folds[1:], s.Lengths[1:]...), s.Lengths[0] <= s.Lengths[1]
	case step == last:
		return strip(s.Folds[:last-1], s.Lengths[:last]...), s.Lengths[last] <= s.Lengths[last-1]
	}
	before, length, behind := s.Lengths[step-1], s.Lengths[step], s.Lengths[step+1]
	left := strip("", s.Lengths[:step-1]...)
	left.Lengths = append(left.Lengths, before-length+behind)
	left.Lengths = append(left.Lengths, s.Lengths[step+2:]...)
	for crease, f := range s.Folds {
		if crease != step-1 && crease != step {
			left.Folds += string(f)
		}
	}
	return left, length <= before && length <= behind && s.Folds[step-1] != s.Folds[step]
}

// ways returns what all steps of a strip lead to, until none is left.
func ways(s fold.Strip) []fold.Strip {
	var left []fold.Strip
	for step := range s.Lengths {
		if next, can := taken(s, step); can {
			left = append(left, ways(next)...)
		}
	}
	if left == nil {
		return []fold.Strip{s}
	}
	return left
}

// flat reports whether a strip has a folding, by Count.
func flat(t *testing.T, s fold.Strip) bool {
	t.Helper()
	return count(t, s) > 0
}

// count returns the number of foldings of a strip.
func count(t *testing.T, s fold.Strip) int {
	t.Helper()
	n, e := fold.Count(s)
	if e != api.OK {
		t.Fatalf("Count of %v: %d", s, e)
	}
	return n
}
