package fold_test

import (
	"math"
	"slices"
	"testing"

	"tusche/api"
	"tusche/fold"
)

// P2.4.
func TestCan(t *testing.T) {
	for _, x := range []struct {
		strip fold.Strip
		want  []int
	}{
		{strip("", 7), nil},
		{strip("m", 2, 2), list(0, 1)},
		{strip("v", 1, 2), list(0)},
		{strip("v", 2, 1), list(1)},
		{strip("vv", 1, 1, 1), list(0, 2)},
		{strip("mm", 1, 1, 1), list(0, 2)},
		{strip("vm", 1, 1, 1), list(0, 1, 2)},
		{strip("mv", 1, 1, 1), list(0, 1, 2)},
		{strip("mv", 2, 3, 2), list(0, 2)},
		{strip("mv", 1, 2, 3), list(0)},
		{strip("mv", 3, 2, 1), list(2)},
		{strip("mv", 2, 2, 3), list(0, 1)},
		{strip("mv", 3, 2, 2), list(1, 2)},
		{strip("mm", 3, 1, 2), nil},
		{strip("vmv", 2, 1, 1, 2), list(1, 2)},
		{strip("vvm", 2, 1, 1, 2), list(2)},
		{strip("vmvmvm", 5, 1, 5, 1, 5, 1, 5), list(1, 3, 5)},
		{strip("vmmmvm", 5, 1, 5, 1, 5, 1, 5), list(1, 5)},
	} {
		if l, e := fold.Can(x.strip); !slices.Equal(l, x.want) || e != api.OK {
			t.Errorf("Can of %v: %v %d, want %v", x.strip, l, e, x.want)
		}
	}
}

// P2.4.
func TestDo(t *testing.T) {
	for _, x := range []struct {
		strip fold.Strip
		step  int
		left  fold.Strip
		want  api.Errno
	}{
		{strip("m", 2, 2), 0, strip("", 2), api.OK},
		{strip("m", 2, 2), 1, strip("", 2), api.OK},
		{strip("m", 1, 2), 0, strip("", 2), api.OK},
		{strip("m", 1, 2), 1, fold.Strip{}, api.ErrProof},
		{strip("m", 3, 2), 1, strip("", 3), api.OK},
		{strip("m", 3, 2), 0, fold.Strip{}, api.ErrProof},
		{strip("vm", 1, 1, 1), 1, strip("", 1), api.OK},
		{strip("vv", 1, 1, 1), 1, fold.Strip{}, api.ErrProof},
		{strip("mmv", 1, 2, 3, 4), 0, strip("mv", 2, 3, 4), api.OK},
		{strip("vmm", 4, 3, 2, 1), 3, strip("vm", 4, 3, 2), api.OK},
		{strip("vvmv", 5, 4, 1, 3, 2), 2, strip("vv", 5, 6, 2), api.OK},
		{strip("vmvv", 5, 4, 1, 3, 2), 2, strip("vv", 5, 6, 2), api.OK},
		{strip("mvmv", 5, 1, 3, 4, 2), 1, strip("mv", 7, 4, 2), api.OK},
		{strip("mvvm", 2, 4, 3, 1, 5), 3, strip("mv", 2, 4, 7), api.OK},
		{strip("vm", 175, 1, 174), 1, strip("", 348), api.OK},
		{strip("", 5), 0, fold.Strip{}, api.ErrNone},
		{strip("", 5), 1, fold.Strip{}, api.ErrNone},
		{strip("", 5), -1, fold.Strip{}, api.ErrNone},
		{exampleS(), 3, fold.Strip{}, api.ErrNone},
		{exampleS(), -1, fold.Strip{}, api.ErrNone},
		{exampleS(), math.MaxInt, fold.Strip{}, api.ErrNone},
		{exampleS(), math.MinInt, fold.Strip{}, api.ErrNone},
		{exampleS(), 0, fold.Strip{}, api.ErrProof},
	} {
		if s, e := fold.Do(x.strip, x.step); !equal(s, x.left) || e != x.want {
			t.Errorf("Do of %v: %d: %v %d, want %v %d", x.strip, x.step, s, e, x.left, x.want)
		}
	}
}

// P2.4: each step of many strips.
func TestCanDo(t *testing.T) {
	for _, s := range stripsFrom(manyLengths()) {
		var can []int
		for step := range s.Lengths {
			left, is := taken(s, step)
			want := api.OK
			switch {
			case is:
				can = append(can, step)
			case len(s.Lengths) == 1:
				left, want = fold.Strip{}, api.ErrNone
			default:
				left, want = fold.Strip{}, api.ErrProof
			}
			if l, e := fold.Do(s, step); !equal(l, left) || e != want {
				t.Fatalf("Do of %v: %d: %v %d, want %v %d", s, step, l, e, left, want)
			}
			if e := fold.Check(left); is && e != api.OK {
				t.Fatalf("%v after the step %d is no strip: %v", s, step, left)
			}
		}
		if l, e := fold.Can(s); !slices.Equal(l, can) || e != api.OK {
			t.Fatalf("Can of %v: %v %d, want %v", s, l, e, can)
		}
	}
}

// P2.5.
func TestSteps(t *testing.T) {
	for _, lengths := range manyLengths() {
		foldings := foldingsOf(lengths)
		for _, s := range stripsOf(lengths) {
			l, e := fold.Steps(s)
			if len(foldings[s.Folds]) == 0 {
				if len(l) != 0 || e != api.ErrLost {
					t.Fatalf("Steps of %v, which is not flat: %v %d", s, l, e)
				}
				continue
			}
			left := s
			for _, step := range l {
				next, can := taken(left, step)
				if !can {
					t.Fatalf("Steps of %v: %v, but %d cannot be done", s, l, step)
				}
				left = next
			}
			if e != api.OK || len(left.Lengths) != 1 {
				t.Fatalf("Steps of %v: %v %d lead to %v", s, l, e, left)
			}
			if e := fold.Verify(s, l); e != api.OK {
				t.Fatalf("Verify of %v: %v: %d", s, l, e)
			}
		}
	}
}

// P2.5.
func TestVerify(t *testing.T) {
	for _, x := range []struct {
		strip fold.Strip
		steps []int
		want  api.Errno
	}{
		{strip("", 5), nil, api.OK},
		{strip("", 5), list(0), api.ErrNone},
		{strip("m", 2, 2), list(0), api.OK},
		{strip("m", 2, 2), list(1), api.OK},
		{strip("m", 2, 2), nil, api.ErrOpen},
		{strip("m", 2, 2), list(0, 0), api.ErrNone},
		{strip("m", 2, 2), list(2), api.ErrNone},
		{exampleS(), list(1), api.OK},
		{exampleS(), list(), api.ErrOpen},
		{exampleS(), list(0), api.ErrProof},
		{exampleS(), list(2), api.ErrProof},
		{exampleS(), list(3), api.ErrNone},
		{exampleS(), list(-1), api.ErrNone},
		{exampleS(), list(0, 9), api.ErrProof},
		{exampleS(), list(9, 0), api.ErrNone},
		{exampleS(), list(1, 0), api.ErrNone},
		{exampleS(), list(1, 0, 0, 0, 0, 0, 0, 0, 0), api.ErrNone},
		{exampleT(), nil, api.ErrOpen},
		{exampleT(), list(1), api.ErrProof},
		{strip("vv", 1, 1, 1), list(0, 0), api.OK},
		{strip("vv", 1, 1, 1), list(2, 1), api.OK},
		{strip("vv", 1, 1, 1), list(2), api.ErrOpen},
		{strip("vv", 1, 1, 1), list(2, 2), api.ErrNone}, // there is no such segment any more
		{strip("vv", 1, 1, 1), list(1, 1), api.ErrProof},
		{strip("mvv", 3, 1, 2, 2), list(1, 1), api.OK},
		{strip("mvv", 3, 1, 2, 2), list(1, 0), api.ErrProof},
		{strip("mmv", 3, 1, 2, 2), list(3), api.ErrOpen}, // no step is left, but it is not done
		{strip("mmv", 3, 1, 2, 2), list(3, 2), api.ErrProof},
		{strip("mvmv", 5, 1, 3, 4, 2), list(1, 2, 1), api.OK},
		{strip("mvmv", 5, 1, 3, 4, 2), list(1, 2), api.ErrOpen},
		{strip("mvmv", 5, 1, 3, 4, 2), list(1, 0, 1), api.ErrProof},
		{strip("vv", 1, 1, 1), make([]int, 5000), api.ErrNone},
	} {
		if e := fold.Verify(x.strip, x.steps); e != x.want {
			t.Errorf("Verify of %v: %v: %d, want %d", x.strip, x.steps, e, x.want)
		}
	}
}

// P2.5: each list of some steps.
func TestVerifyAll(t *testing.T) {
	for _, lengths := range slices.Concat(lengthsUpTo(1, 2), lengthsUpTo(2, 3), lengthsUpTo(3, 3), lengthsUpTo(4, 2)) {
		for _, s := range stripsOf(lengths) {
			checkVerify(t, s, s, nil)
		}
	}
}

// checkVerify checks Verify with all lists of steps that begin with some that lead to left.
func checkVerify(t *testing.T, s, left fold.Strip, steps []int) {
	t.Helper()
	want := api.ErrOpen
	if len(left.Lengths) == 1 {
		want = api.OK
	}
	if e := fold.Verify(s, steps); e != want {
		t.Fatalf("Verify of %v: %v: %d, want %d", s, steps, e, want)
	}
	for step := -1; step <= len(left.Lengths); step++ {
		longer := append(slices.Clone(steps), step)
		if step < 0 || step == len(left.Lengths) || len(left.Lengths) == 1 {
			if e := fold.Verify(s, longer); e != api.ErrNone {
				t.Fatalf("Verify of %v: %v: %d, want %d", s, longer, e, api.ErrNone)
			}
			continue
		}
		if next, can := taken(left, step); can {
			checkVerify(t, s, next, longer)
			continue
		}
		if e := fold.Verify(s, longer); e != api.ErrProof {
			t.Fatalf("Verify of %v: %v: %d, want %d", s, longer, e, api.ErrProof)
		}
	}
}

// P2.5.
func TestStuck(t *testing.T) {
	for _, x := range []struct{ strip, want fold.Strip }{ // there is one only
		{strip("", 5), strip("", 5)},
		{strip("m", 2, 3), strip("", 3)},
		{strip("m", 3, 2), strip("", 3)},
		{exampleS(), strip("", 4)},
		{exampleT(), exampleT()},
		{strip("vv", 3, 1, 2), strip("vv", 3, 1, 2)},
		{strip("vvv", 3, 1, 2, 2), strip("vv", 3, 1, 2)},
		{strip("vvmv", 3, 1, 4, 1, 2), strip("vv", 3, 1, 5)},
	} {
		if s, e := fold.Stuck(x.strip); !equal(s, x.want) || e != api.OK {
			t.Errorf("Stuck of %v: %v %d, want %v", x.strip, s, e, x.want)
		}
	}
	for _, s := range stripsFrom(manyLengths()) {
		left, e := fold.Stuck(s)
		if e != api.OK || !slices.ContainsFunc(ways(s), func(other fold.Strip) bool { return equal(left, other) }) {
			t.Fatalf("Stuck of %v: %v %d; steps lead to %v", s, left, e, ways(s))
		}
	}
}

// P2.4, P2.5.
func TestStepsErrors(t *testing.T) {
	for _, x := range badStrips() {
		if l, e := fold.Can(x.strip); len(l) != 0 || e != x.want {
			t.Errorf("Can of %v: %v %d, want %d", x.strip, l, e, x.want)
		}
		for _, step := range list(0, 1, -1, 7, math.MinInt, math.MaxInt) {
			if s, e := fold.Do(x.strip, step); !equal(s, fold.Strip{}) || e != x.want {
				t.Errorf("Do of %v: %d: %v %d, want %d", x.strip, step, s, e, x.want)
			}
			if e := fold.Verify(x.strip, list(step)); e != x.want {
				t.Errorf("Verify of %v: %d: %d, want %d", x.strip, step, e, x.want)
			}
		}
		if l, e := fold.Steps(x.strip); len(l) != 0 || e != x.want {
			t.Errorf("Steps of %v: %v %d, want %d", x.strip, l, e, x.want)
		}
		if e := fold.Verify(x.strip, nil); e != x.want {
			t.Errorf("Verify of %v: none: %d, want %d", x.strip, e, x.want)
		}
		if s, e := fold.Stuck(x.strip); !equal(s, fold.Strip{}) || e != x.want {
			t.Errorf("Stuck of %v: %v %d, want %d", x.strip, s, e, x.want)
		}
	}
}
