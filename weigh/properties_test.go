package weigh_test

import (
	"slices"
	"testing"

	"tusche/api"
	"tusche/weigh"
)

// power returns 3 to the power of an exponent.
func power(exponent int) int {
	return list(1, 3, 9, 27, 81, 243, 729, 2187)[exponent]
}

// P12.8, M4: how many loads there can be, and weights that reach all of them.
func TestThrees(t *testing.T) {
	for _, weights := range sets() {
		if n := len(loads(t, weights)); n > (power(len(weights))-1)/2 {
			t.Fatalf("%v weighs %d loads", weights, n)
		}
	}
	var weights []int
	for size := 1; size <= weigh.MaxWeights; size++ {
		weights = append(weights, power(size-1))
		most := (power(size) - 1) / 2
		if n := len(loads(t, weights)); n != most || reach(t, weights) != most {
			t.Errorf("%v weighs %d loads, and reaches %d", weights, n, reach(t, weights))
		}
		if n := fewest(t, most); n != size {
			t.Errorf("Fewest of %d: %d", most, n)
		}
		if most < weigh.MaxLoad && fewest(t, most+1) != size+1 {
			t.Errorf("Fewest of %d: %d", most+1, fewest(t, most+1))
		}
	}
}

// P12.9: negated loads, and the greatest one.
func TestNegated(t *testing.T) {
	for number, weights := range sets() {
		all := loads(t, weights)
		if sum := total(weights); all[len(all)-1] != sum || canLay(t, weights, sum+1) {
			t.Fatalf("Loads of %v: %v", weights, all)
		}
		for load := 1 + number%5; load <= total(weights); load += 1 + total(weights)/40 {
			_, is := slices.BinarySearch(all, load)
			if canLay(t, weights, load) != is || canLay(t, weights, -load) != is {
				t.Fatalf("%v: %d is a load: %t", weights, load, is)
			}
		}
	}
}

// P12.9, M1: with a weight more no load is lost.
func TestWeightMore(t *testing.T) {
	for number, weights := range sets() {
		if len(weights) == weigh.MaxWeights {
			continue
		}
		for _, weight := range list(1, 1+number%9, 2000) {
			more := append(slices.Clone(weights), weight)
			slices.Sort(more)
			all := loads(t, more)
			for _, load := range loads(t, weights) {
				if _, is := slices.BinarySearch(all, load); !is {
					t.Fatalf("%d of %v is none of %v", load, weights, more)
				}
			}
			if reach(t, more) < reach(t, weights) {
				t.Fatalf("%v reaches less than %v", more, weights)
			}
		}
	}
}

// times returns numbers that are multiplied.
func times(numbers []int, factor int) []int {
	var all []int
	for _, number := range numbers {
		all = append(all, number*factor)
	}
	return all
}

// P12.9: all weights are multiplied.
func TestMultiplied(t *testing.T) {
	for number, weights := range sets() {
		factor := 1 + number%7
		if factor > weigh.MaxWeight/weights[len(weights)-1] {
			continue
		}
		all, other := loads(t, weights), times(weights, factor)
		if l := loads(t, other); !slices.Equal(l, times(all, factor)) {
			t.Fatalf("%v and %v: %v", weights, other, l)
		}
		for i := 0; i < len(all); i += 1 + len(all)/20 {
			a, e := weigh.Lay(weights, all[i])
			b, f := weigh.Lay(other, factor*all[i])
			if !slices.Equal(a, b) || e != api.OK || f != api.OK {
				t.Fatalf("%v and %v: %v %d, %v %d", weights, other, a, e, b, f)
			}
		}
	}
}

// P12.11, M2, M3: the cases that are left are together all cases, and one at most if the plan tells all of them.
func TestShown(t *testing.T) {
	for _, x := range trials() {
		met := map[situation]int{}
		most := 0
		for _, shown := range everyLaying(len(x.plan)) {
			l := left(t, x, shown)
			for _, c := range l {
				met[c]++
				if !slices.Equal(shows(t, x, c), shown) {
					t.Fatalf("Left of %v, %v: %v", x, shown, l)
				}
			}
			most = max(most, len(l))
		}
		for _, c := range everyCase(x.stones) {
			if met[c] != 1 {
				t.Fatalf("%v: %v is left %d times", x, c, met[c])
			}
		}
		if len(met) != 2*x.stones+1 || saysTelling(t, x) != (most <= 1) {
			t.Fatalf("%v: %v, at most %d", x, met, most)
		}
	}
}

// renamed returns a plan whose stones are numbered in another way.
func renamed(p []weigh.Weighing, names []int) []weigh.Weighing {
	rename := func(pan []int) []int {
		var all []int
		for _, stone := range pan {
			all = append(all, names[stone])
		}
		slices.Sort(all)
		return all
	}
	var other []weigh.Weighing
	for _, w := range p {
		other = append(other, weigh.Weighing{Left: rename(w.Left), Right: rename(w.Right)})
	}
	return other
}

// P12.12, M5: stones are numbered in another way.
func TestRenamed(t *testing.T) {
	for number, x := range trials() {
		names := shuffled(x.stones, chance(number))
		other := trial{x.stones, renamed(x.plan, names)}
		if saysTelling(t, x) != saysTelling(t, other) {
			t.Fatalf("%v and %v", x, other)
		}
		for _, c := range everyCase(x.stones) {
			if a, b := shows(t, x, c), shows(t, other, situation{names[c[0]], c[1]}); !slices.Equal(a, b) {
				t.Fatalf("%v and %v, %v: %v and %v", x, other, c, a, b)
			}
		}
	}
}

// P12.12, M5: the pans of a weighing are exchanged.
func TestExchanged(t *testing.T) {
	for number, x := range trials() {
		if len(x.plan) == 0 {
			continue
		}
		other := trial{x.stones, slices.Clone(x.plan)}
		at := number % len(x.plan)
		other.plan[at].Left, other.plan[at].Right = x.plan[at].Right, x.plan[at].Left
		for _, c := range everyCase(x.stones) {
			want := shows(t, x, c)
			want[at] = -want[at]
			if l := shows(t, other, c); !slices.Equal(l, want) {
				t.Fatalf("%v and %v, %v: %v, want %v", x, other, c, l, want)
			}
		}
	}
}

// P12.12, M5: the odd stone is lighter in the place of heavier.
func TestLighter(t *testing.T) {
	for _, x := range trials() {
		for _, c := range everyCase(x.stones) {
			a, b := shows(t, x, c), shows(t, x, situation{c[0], -c[1]})
			if !slices.Equal(b, times(a, -1)) {
				t.Fatalf("%v, %v: %v and %v", x, c, a, b)
			}
		}
	}
}
