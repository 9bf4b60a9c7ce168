package fold_test

import (
	"math"
	"slices"
	"strings"
	"testing"

	"tusche/api"
	"tusche/fold"
)

// badStrip is a strip with the error of Check.
type badStrip struct {
	strip fold.Strip
	want  api.Errno
}

// badLengths are strips with an error of their lengths.
func badLengths() []badStrip {
	return []badStrip{
		{strip(""), api.ErrEmpty},
		{fold.Strip{Lengths: list(), Folds: "x"}, api.ErrEmpty},
		{strip("vvvvvvv", 1, 1, 1, 1, 1, 1, 1, 1), api.ErrMany},
		{strip("x", 1, 1, 1, 0, 1, 1, 1, 1), api.ErrMany},
		{strip("", slices.Repeat(list(math.MaxInt), 8)...), api.ErrMany},
		{strip("", make([]int, 5000)...), api.ErrMany},
		{strip("", 0), api.ErrSize},
		{strip("", -1), api.ErrSize},
		{strip("", 351), api.ErrSize},
		{strip("", math.MinInt), api.ErrSize},
		{strip("", math.MaxInt), api.ErrSize},
		{strip("x", 0, 1), api.ErrSize},
		{strip("mm", 1, 0, 1), api.ErrSize},
		{strip("mm", 1, 1, 351), api.ErrSize},
		{strip("mm", 350, 350, 0), api.ErrSize},
		{strip("mm", 350, 1, -1), api.ErrSize},
		{strip("vmvmvm", 1, 2, 3, 4, 5, 6, 0), api.ErrSize},
		{strip("v", math.MaxInt, math.MaxInt), api.ErrSize},
		{strip("v", 350, 1), api.ErrOver},
		{strip("", 1, 350), api.ErrOver},
		{strip("xx", 200, 100, 51), api.ErrOver},
		{strip("vmvmvm", 50, 50, 50, 50, 50, 50, 51), api.ErrOver},
		{strip("vmvmvm", slices.Repeat(list(350), 7)...), api.ErrOver},
	}
}

// badFolds are strips with an error of their folds only.
func badFolds() []badStrip {
	bad := []badStrip{
		{strip("v", 1), api.ErrForm},
		{strip("x", 1), api.ErrForm},
		{strip("", 1, 1), api.ErrForm},
		{strip("vv", 1, 1), api.ErrForm},
		{strip("é", 1, 1), api.ErrForm},
		{strip("é", 1, 1, 1), api.ErrForm},
		{strip("vvm", 1, 1, 1), api.ErrForm},
		{strip("vvmvmvm", 1, 1, 1, 1, 1, 1, 1), api.ErrForm},
		{strip("vvmvm", 1, 1, 1, 1, 1, 1, 1), api.ErrForm},
		{strip(strings.Repeat("v", 5000), 350), api.ErrForm},
	}
	for _, other := range []string{"M", "V", "?", " ", "\x00", "\xff", "n", "l", "u", "w", "0"} {
		bad = append(bad, badStrip{strip(other, 1, 2), api.ErrForm})
		for at := range 6 {
			folds := "vmvmmv"[:at] + other + "vmvmmv"[at+1:]
			bad = append(bad, badStrip{strip(folds, 1, 2, 3, 4, 5, 6, 7), api.ErrForm})
		}
	}
	return bad
}

// badStrips are strips of all errors of Check.
func badStrips() []badStrip {
	return append(badLengths(), badFolds()...)
}

// P2.1.
func TestCheck(t *testing.T) {
	for _, s := range []fold.Strip{exampleS(), exampleT(), strip("", 1), strip("", 350), strip("m", 1, 349), strip("v", 175, 175), strip("vmvmvm", 50, 50, 50, 50, 50, 50, 50), strip("mmmmmm", 1, 1, 1, 344, 1, 1, 1)} {
		if e := fold.Check(s); e != api.OK {
			t.Errorf("Check of %v: %d", s, e)
		}
	}
	for _, x := range badStrips() {
		if e := fold.Check(x.strip); e != x.want {
			t.Errorf("Check of %v: %d, want %d", x.strip, e, x.want)
		}
	}
}

// P2.1.
func TestPlaces(t *testing.T) {
	for _, x := range []struct {
		strip fold.Strip
		want  []api.Bounds
	}{
		{strip("", 1), []api.Bounds{{Least: 0, Most: 1}}},
		{strip("", 350), []api.Bounds{{Least: 0, Most: 350}}},
		{strip("m", 2, 5), []api.Bounds{{Least: 0, Most: 2}, {Least: -3, Most: 2}}},
		{exampleT(), []api.Bounds{{Least: 0, Most: 2}, {Least: 1, Most: 2}, {Least: 1, Most: 2}, {Least: 0, Most: 2}}},
		{strip("vmvmvm", 1, 2, 3, 4, 5, 6, 7), []api.Bounds{{Least: 0, Most: 1}, {Least: -1, Most: 1}, {Least: -1, Most: 2}, {Least: -2, Most: 2}, {Least: -2, Most: 3}, {Least: -3, Most: 3}, {Least: -3, Most: 4}}},
		{strip("vv", 1, 348, 1), []api.Bounds{{Least: 0, Most: 1}, {Least: -347, Most: 1}, {Least: -347, Most: -346}}},
	} {
		if l, e := fold.Places(x.strip); !slices.Equal(l, x.want) || e != api.OK {
			t.Errorf("Places of %v: %v %d, want %v", x.strip, l, e, x.want)
		}
	}
	for _, s := range stripsFrom(manyLengths()) {
		at := ends(s.Lengths)
		var want []api.Bounds
		for i := range s.Lengths {
			want = append(want, api.Bounds{Least: min(at[i], at[i+1]), Most: max(at[i], at[i+1])})
		}
		if l, e := fold.Places(s); !slices.Equal(l, want) || e != api.OK {
			t.Fatalf("Places of %v: %v %d, want %v", s, l, e, want)
		}
	}
}
