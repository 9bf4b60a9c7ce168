package letters_test

import (
	"slices"
	"testing"

	"tusche/api"
	"tusche/letters"
)

// P10.2, M3: by all exchanges.
func TestSame(t *testing.T) {
	alike := 0
	for _, x := range twos() {
		_, want := class(x.o, x.a)[x.b]
		if want && x.a != x.b {
			alike++
		}
		if is := same(t, x.o, x.a, x.b); is != want {
			t.Fatalf("Same with %v: %s and %s: %t", x.o, x.a, x.b, is)
		}
	}
	if alike < 500 {
		t.Errorf("%d", alike)
	}
}

// P10.2: logs that mean the same as very many others.
func TestSameOfMany(t *testing.T) {
	for _, x := range bigTwos() {
		next := chance(len(x.a))
		if a, b := shuffled(x.o, x.a, next), shuffled(x.o, x.a, next); !same(t, x.o, a, b) {
			t.Fatalf("Same with %v: %s and %s", x.o, a, b)
		}
	}
}

// P10.2: equal logs, logs without letters, other numbers of letters, and an order that only some kinds show.
func TestSameEdges(t *testing.T) {
	o := exampleO()
	for _, x := range []two{{o, "", ""}, {o, "a", "a"}, {o, "ac", "ca"}, {o, "da", "ad"}, {o, "db", "bd"}, {o, "acac", "ccaa"}, {office(4, "ca", "da", "db"), "ac", "ca"}, {allFree(6), "abcdefabcdefab", "ffeeddccbbbaaa"}} {
		if !same(t, x.o, x.a, x.b) {
			t.Errorf("Same with %v: %s and %s", x.o, x.a, x.b)
		}
	}
	for _, x := range []two{{o, "", "a"}, {o, "a", ""}, {o, "a", "aa"}, {o, "a", "b"}, {o, "ab", "ba"}, {o, "cb", "bc"}, {o, "dc", "cd"}, {o, "acb", "bac"}, {allFree(6), "ab", "abb"}, {allFree(6), "aab", "abb"}, {allFree(6), "abc", "abd"}, {allBound(6), "abcdefabcdefab", "abcdefabcdefba"}} {
		if same(t, x.o, x.a, x.b) {
			t.Errorf("Same with %v: %s and %s", x.o, x.a, x.b)
		}
	}
}

// differOf is the chapter's definition: the first two kinds, if there are any.
func differOf(o letters.Office, a, b string) []int {
	for x := range o.Kinds {
		for y := range o.Kinds {
			if x <= y && !areFree(o, x, y) && only(a, x, y) != only(b, x, y) {
				return list(x, y)
			}
		}
	}
	return nil
}

// P10.2, P10.7, M4: two kinds just if the logs do not mean the same, by all exchanges.
func TestDiffer(t *testing.T) {
	found := map[[2]int]bool{}
	for _, x := range twos() {
		k, l, e := letters.Differ(x.o, x.a, x.b)
		if _, is := class(x.o, x.a)[x.b]; is {
			if k != 0 || l != 0 || e != api.ErrSame {
				t.Fatalf("Differ with %v: %s and %s: %d %d %d", x.o, x.a, x.b, k, l, e)
			}
			continue
		}
		if want := differOf(x.o, x.a, x.b); e != api.OK || !slices.Equal(list(k, l), want) {
			t.Fatalf("Differ with %v: %s and %s: %d %d %d, want %v", x.o, x.a, x.b, k, l, e, want)
		}
		found[[2]int{k, l}] = true
	}
	if len(found) < 15 {
		t.Errorf("%v", found)
	}
}

// P10.2: one kind, the smallest kinds of several, and the last ones.
func TestDifferEdges(t *testing.T) {
	o := exampleO()
	for _, x := range []struct {
		two
		x, y int
		e    api.Errno
	}{
		{two{o, "", ""}, 0, 0, api.ErrSame},
		{two{o, "ac", "ca"}, 0, 0, api.ErrSame},
		{two{o, "a", ""}, 0, 0, api.OK},
		{two{o, "", "a"}, 0, 0, api.OK},
		{two{o, "b", ""}, 0, 1, api.OK}, // before 1, 1
		{two{o, "c", ""}, 1, 2, api.OK}, // a is free of c
		{two{o, "d", ""}, 2, 3, api.OK},
		{two{o, "ab", "ba"}, 0, 1, api.OK},
		{two{o, "bc", "cb"}, 1, 2, api.OK},
		{two{o, "cd", "dc"}, 2, 3, api.OK},
		{two{o, "abcd", "badc"}, 0, 1, api.OK},
		{two{o, "abcd", "abdc"}, 2, 3, api.OK},
		{two{allFree(6), "f", ""}, 5, 5, api.OK},
		{two{allFree(6), "ef", "ff"}, 4, 4, api.OK},
		{two{allFree(6), "fe", "fd"}, 3, 3, api.OK},
		{two{allBound(6), "ef", "fe"}, 4, 5, api.OK},
		{two{allBound(6), "f", ""}, 0, 5, api.OK},
		{two{allBound(6), "aefa", "afea"}, 4, 5, api.OK},
		{two{allBound(1), "aa", "a"}, 0, 0, api.OK},
		{two{office(6, "fe"), "ef", "fe"}, 0, 0, api.ErrSame},
		{two{office(3, "ab", "ac"), "abc", "acb"}, 1, 2, api.OK},
		{two{office(3, "ab"), "cab", "acb"}, 0, 2, api.OK},
	} {
		for range 2 {
			if k, l, e := letters.Differ(x.o, x.a, x.b); k != x.x || l != x.y || e != x.e {
				t.Errorf("Differ with %v: %s and %s: %d %d %d, want %d %d %d", x.o, x.a, x.b, k, l, e, x.x, x.y, x.e)
			}
			x.a, x.b = x.b, x.a
		}
	}
}
