package fold_test

import (
	"slices"
	"strings"
	"testing"

	"tusche/api"
	"tusche/fold"
)

// do returns the strip after a step that has to be one of Can.
func do(t *testing.T, s fold.Strip, step int) fold.Strip {
	t.Helper()
	next, e := fold.Do(s, step)
	if e != api.OK {
		t.Fatalf("Do of %v: %d: %d", s, step, e)
	}
	return next
}

// can returns what Can returns.
func can(t *testing.T, s fold.Strip) []int {
	t.Helper()
	steps, e := fold.Can(s)
	if e != api.OK {
		t.Fatalf("Can of %v: %d", s, e)
	}
	return steps
}

// P2.6: whatever steps are done, a strip that is flat becomes done, and one that is not flat never does.
func TestFlat(t *testing.T) {
	for _, s := range stripsFrom(shortLengths()) {
		checkFlat(t, s, nil, s, flat(t, s))
	}
	for _, lengths := range longLengths() {
		for _, folds := range []string{"vmvmvm", "vvvvvv", "mmvvmm", "vmmvmv", "vvmmvv", "mvvvvm"} {
			s := strip(folds[:len(lengths)-1], lengths...)
			checkFlat(t, s, nil, s, flat(t, s))
		}
	}
}

// checkFlat checks all strips that are left after steps of a strip and further ones.
func checkFlat(t *testing.T, s fold.Strip, steps []int, left fold.Strip, isFlat bool) {
	t.Helper()
	next := can(t, left)
	for _, step := range next {
		checkFlat(t, s, append(slices.Clone(steps), step), do(t, left, step), isFlat)
	}
	if len(next) > 0 {
		return
	}
	isDone := len(left.Lengths) == 1
	if isDone != isFlat || isDone != (fold.Verify(s, steps) == api.OK) {
		t.Fatalf("%v is flat: %v, but %v lead to %v", s, isFlat, steps, left)
	}
	if !isDone && flat(t, left) {
		t.Fatalf("%v is flat and stuck", left)
	}
}

// P2.6: Stuck and Steps tell which strips are flat.
func TestFlatStuck(t *testing.T) {
	for _, s := range stripsFrom(manyLengths()) {
		isFlat := flat(t, s)
		left, e := fold.Stuck(s)
		if e != api.OK || len(can(t, left)) != 0 || len(left.Lengths) == 1 != isFlat || flat(t, left) != isFlat {
			t.Fatalf("%v is flat: %v, Stuck: %v %d", s, isFlat, left, e)
		}
		if l, e := fold.Steps(s); (e == api.OK) != isFlat || isFlat && fold.Verify(s, l) != api.OK {
			t.Fatalf("%v is flat: %v, Steps: %v %d", s, isFlat, l, e)
		}
		if l, e := fold.Order(s); (e == api.OK) != isFlat || isFlat && fold.Lies(s, l) != api.OK {
			t.Fatalf("%v is flat: %v, Order: %v %d", s, isFlat, l, e)
		}
	}
}

// P2.7.
func TestStepKeepsFlat(t *testing.T) {
	for _, s := range stripsFrom(manyLengths()) {
		for _, step := range can(t, s) {
			if left := do(t, s, step); flat(t, left) != flat(t, s) {
				t.Fatalf("%v is flat: %v, but not so %v after the step %d", s, flat(t, s), left, step)
			}
		}
	}
}

// P2.8.
func TestCutOff(t *testing.T) {
	for _, s := range stripsFrom(manyLengths()) {
		if !flat(t, s) {
			continue
		}
		for from := range s.Lengths {
			for to := from + 1; to <= len(s.Lengths); to++ {
				if part := strip(s.Folds[from:to-1], s.Lengths[from:to]...); !flat(t, part) {
					t.Fatalf("%v is flat, its part %v is not", s, part)
				}
			}
		}
		for _, at := range list(0, len(s.Lengths)-1) {
			for short := strip(s.Folds, s.Lengths...); short.Lengths[at] > 1; {
				short.Lengths[at] = (short.Lengths[at] + 1) / 2
				if !flat(t, short) {
					t.Fatalf("%v is flat, %v with a shorter end is not", s, short)
				}
			}
		}
	}
}

// turned returns a strip from its other end.
func turned(s fold.Strip) fold.Strip {
	lengths, folds := slices.Clone(s.Lengths), []byte(s.Folds)
	slices.Reverse(lengths)
	slices.Reverse(folds)
	return strip(string(folds), lengths...)
}

// exchanged returns a strip with valleys for mountains, and mountains for valleys.
func exchanged(s fold.Strip) fold.Strip {
	return strip(strings.NewReplacer("m", "v", "v", "m").Replace(s.Folds), s.Lengths...)
}

// multiplied returns a strip with all lengths multiplied by a number.
func multiplied(s fold.Strip, by int) fold.Strip {
	other := strip(s.Folds, s.Lengths...)
	for i := range other.Lengths {
		other.Lengths[i] *= by
	}
	return other
}

// P2.9.
func TestMirrored(t *testing.T) {
	for _, s := range stripsFrom(manyLengths()) {
		want := count(t, s)
		others := []fold.Strip{turned(s), exchanged(s)}
		for _, by := range list(2, 3, 10, 50, 350) {
			if other := multiplied(s, by); fold.Check(other) == api.OK {
				others = append(others, other)
			}
		}
		for _, other := range others {
			if n := count(t, other); n != want {
				t.Fatalf("Count of %v: %d, of %v: %d", s, want, other, n)
			}
		}
	}
}

// P2.10.
func TestStamps(t *testing.T) {
	for i, want := range list(1, 2, 6, 16, 50, 144, 462) {
		size := i + 1
		for _, length := range list(1, 2, 7, 50) {
			lengths := slices.Repeat(list(length), size)
			if n, e := fold.All(lengths); n != want || e != api.OK || n%size != 0 {
				t.Errorf("All of %v: %d %d, want %d", lengths, n, e, want)
			}
			sum := 0
			for _, s := range stripsOf(lengths) {
				if !flat(t, s) {
					t.Errorf("%v is not flat", s)
				}
				sum += count(t, s)
			}
			if sum != want {
				t.Errorf("Count of all strips of %v: %d, want %d", lengths, sum, want)
			}
		}
	}
}

// P2.11, and M2: what Lies accepts for some folds is counted once by Count, and once by All.
func TestOneOrder(t *testing.T) {
	for _, lengths := range shortLengths() {
		strips, counts, all := stripsOf(lengths), map[string]int{}, 0
		for _, order := range ordersOf(len(lengths)) {
			accepted := 0
			for _, s := range strips {
				if fold.Lies(s, order) == api.OK {
					counts[s.Folds]++
					accepted++
				}
			}
			if accepted > 1 {
				t.Fatalf("%v: %v is a folding of %d strips", lengths, order, accepted)
			}
			all += accepted
		}
		for _, s := range strips {
			if n := count(t, s); n != counts[s.Folds] {
				t.Fatalf("Count of %v: %d, but Lies accepts %d", s, n, counts[s.Folds])
			}
		}
		if n, e := fold.All(lengths); n != all || e != api.OK {
			t.Fatalf("All of %v: %d %d, but Lies accepts %d", lengths, n, e, all)
		}
	}
}
