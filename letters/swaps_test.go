package letters_test

import (
	"math"
	"slices"
	"testing"

	"tusche/api"
	"tusche/letters"
)

// verifyOf is the chapter's definition.
func verifyOf(o letters.Office, a, b string, swaps []int) api.Errno {
	for _, i := range swaps {
		if i < 0 || i > len(a)-2 {
			return api.ErrNone
		}
		if !canExchange(o, a, i) {
			return api.ErrClash
		}
		a = exchanged(a, i)
	}
	if a != b {
		return api.ErrProof
	}
	return api.OK
}

// P10.3, P10.9, M3, M4: the fewest exchanges, by all exchanges.
func TestSwaps(t *testing.T) {
	most := 0
	for _, x := range twos() {
		want, is := class(x.o, x.a)[x.b]
		swaps, e := letters.Swaps(x.o, x.a, x.b)
		if !is {
			if len(swaps) != 0 || e != api.ErrLost {
				t.Fatalf("Swaps with %v: %s and %s: %v %d", x.o, x.a, x.b, swaps, e)
			}
			continue
		}
		most = max(most, want)
		if e != api.OK || len(swaps) != want || verifyOf(x.o, x.a, x.b, swaps) != api.OK {
			t.Fatalf("Swaps with %v: %s and %s: %v %d, want %d", x.o, x.a, x.b, swaps, e, want)
		}
	}
	if most < 15 {
		t.Errorf("%d", most)
	}
}

// P10.9: as many as there are pairs in another order, each of which is exchanged once.
func TestSwapsOfPairs(t *testing.T) {
	for number, x := range bigOnes() {
		other := shuffled(x.o, x.log, chance(number))
		swaps := swapsOf(t, x.o, x.log, other)
		if len(swaps) != turnedPairs(x.log, other) || letters.Verify(x.o, x.log, other, swaps) != api.OK {
			t.Fatalf("Swaps with %v: %s and %s: %v", x.o, x.log, other, swaps)
		}
		var all []int // the letters, in the order of the log
		for i := range x.log {
			all = append(all, i)
		}
		for _, i := range swaps {
			if all[i] > all[i+1] {
				t.Fatalf("Swaps with %v: %s and %s: %v exchanges letters back", x.o, x.log, other, swaps)
			}
			all[i], all[i+1] = all[i+1], all[i]
		}
	}
}

// P10.3: no exchange, one, and as many as there can be.
func TestSwapsEdges(t *testing.T) {
	for _, x := range []struct {
		two
		want int
		e    api.Errno
	}{
		{two{exampleO(), "", ""}, 0, api.OK},
		{two{exampleO(), "a", "a"}, 0, api.OK},
		{two{exampleO(), "abcdabcd", "abcdabcd"}, 0, api.OK},
		{two{exampleO(), "ac", "ca"}, 1, api.OK},
		{two{exampleO(), "aacc", "ccaa"}, 4, api.OK},
		{two{exampleO(), "acac", "caca"}, 2, api.OK},
		{two{exampleO(), "ab", "ba"}, 0, api.ErrLost},
		{two{exampleO(), "a", ""}, 0, api.ErrLost},
		{two{exampleO(), "", "a"}, 0, api.ErrLost},
		{two{exampleO(), "a", "b"}, 0, api.ErrLost},
		{two{exampleO(), "a", "aa"}, 0, api.ErrLost},
		{two{allFree(2), "aaaaaaabbbbbbb", "bbbbbbbaaaaaaa"}, 49, api.OK},
		{two{allFree(6), "abcdef", "fedcba"}, 15, api.OK},
		{two{allBound(6), "abcdef", "fedcba"}, 0, api.ErrLost},
	} {
		swaps, e := letters.Swaps(x.o, x.a, x.b)
		if len(swaps) != x.want || e != x.e || e == api.OK && letters.Verify(x.o, x.a, x.b, swaps) != api.OK {
			t.Errorf("Swaps with %v: %s and %s: %v %d, want %d %d", x.o, x.a, x.b, swaps, e, x.want, x.e)
		}
	}
}

// P10.3: any exchanges.
func TestVerify(t *testing.T) {
	results := map[api.Errno]int{}
	for number, x := range append(bigTwos(), smallTwos()...) {
		next := chance(number)
		swaps, _ := letters.Swaps(x.o, x.a, x.b)
		for kind := range 4 {
			l := slices.Clone(swaps)
			for range next(1 + kind) {
				l = slices.Insert(l, next(len(l)+1), next(len(x.a)+2)-1)
			}
			e := letters.Verify(x.o, x.a, x.b, l)
			if want := verifyOf(x.o, x.a, x.b, l); e != want {
				t.Fatalf("Verify with %v: %s and %s: %v: %d, want %d", x.o, x.a, x.b, l, e, want)
			}
			results[e]++
		}
	}
	if len(results) != 4 || results[api.OK] < 1000 || results[api.ErrClash] < 1000 {
		t.Errorf("%v", results)
	}
}

// P10.3: the first exchange with an error, the limits of indices, and exchanges that lead elsewhere, or back.
func TestVerifyEdges(t *testing.T) {
	o := exampleO()
	for _, x := range []struct {
		two
		swaps []int
		want  api.Errno
	}{
		{two{o, "", ""}, nil, api.OK},
		{two{o, "", ""}, list(0), api.ErrNone},
		{two{o, "", ""}, list(-1), api.ErrNone},
		{two{o, "", ""}, list(-2), api.ErrNone},
		{two{o, "a", "a"}, nil, api.OK},
		{two{o, "a", "a"}, list(0), api.ErrNone},
		{two{o, "a", "a"}, list(-1), api.ErrNone},
		{two{o, "ac", "ca"}, list(0), api.OK},
		{two{o, "ac", "ca"}, list(1), api.ErrNone},
		{two{o, "ac", "ca"}, list(-1), api.ErrNone},
		{two{o, "ac", "ca"}, list(math.MinInt), api.ErrNone},
		{two{o, "ac", "ca"}, list(math.MaxInt), api.ErrNone},
		{two{o, "ac", "ca"}, nil, api.ErrProof},
		{two{o, "ac", "ca"}, list(0, 0), api.ErrProof},
		{two{o, "ac", "ca"}, list(0, 0, 0), api.OK}, // they need not be the fewest
		{two{o, "ac", "ac"}, list(0, 0), api.OK},
		{two{o, "ac", "ca"}, list(0, 1), api.ErrNone},
		{two{o, "ab", "ba"}, list(0), api.ErrClash},
		{two{o, "aa", "aa"}, list(0), api.ErrClash}, // a kind is bound to itself
		{two{o, "ab", "ba"}, nil, api.ErrProof},
		{two{o, "ab", "ba"}, list(0, 9), api.ErrClash},
		{two{o, "ab", "ba"}, list(9, 0), api.ErrNone},
		{two{o, "acb", "cab"}, list(0), api.OK},
		{two{o, "acb", "cab"}, list(0, 1), api.ErrClash}, // the letters as they are then
		{two{o, "acb", "cab"}, list(1), api.ErrClash},
		{two{o, "badc", "bdca"}, list(1, 2), api.OK},
		{two{o, "badc", "bdca"}, list(2, 1), api.ErrClash},
		{two{o, "badc", "bdac"}, list(1, 2), api.ErrProof},
		{two{o, "ac", "cab"}, list(0), api.ErrProof},
		{two{o, "acb", "ca"}, list(0), api.ErrProof},
		{two{o, "a", "b"}, nil, api.ErrProof},
		{two{allFree(2), "aaaaaaaaaaaaab", "aaaaaaaaaaaaba"}, list(12), api.OK},
		{two{allFree(2), "aaaaaaaaaaaaab", "aaaaaaaaaaaaba"}, list(13), api.ErrNone},
	} {
		if e := letters.Verify(x.o, x.a, x.b, x.swaps); e != x.want {
			t.Errorf("Verify with %v: %s and %s: %v: %d, want %d", x.o, x.a, x.b, x.swaps, e, x.want)
		}
	}
	if e := letters.Verify(o, "acac", "acac", make([]int, 100000)); e != api.OK {
		t.Errorf("Verify of many: %d", e)
	}
	if e := letters.Verify(o, "acac", "caac", make([]int, 100001)); e != api.OK {
		t.Errorf("Verify of many and one: %d", e)
	}
}
