package letters_test

import (
	"math"
	"slices"
	"testing"

	"tusche/api"
	"tusche/letters"
)

// stepsOf is the chapter's definition.
func stepsOf(o letters.Office, log string) []string {
	var all [][]byte
	at := make([]int, len(log))
	for i := range log {
		for k := range i {
			if !areFree(o, kindAt(log, k), kindAt(log, i)) {
				at[i] = max(at[i], at[k]+1)
			}
		}
		if at[i] == len(all) {
			all = append(all, nil)
		}
		all[at[i]] = append(all[at[i]], log[i])
	}
	var l []string
	for _, step := range all {
		slices.Sort(step)
		l = append(l, string(step))
	}
	return l
}

// P10.4, M2: by all exchanges.
func TestForms(t *testing.T) {
	most := 0
	for _, x := range ones() {
		all := members(x.o, x.log)
		most = max(most, len(all))
		if log := first(t, x.o, x.log); log != all[0] {
			t.Fatalf("First with %v: %s: %s, want %s", x.o, x.log, log, all[0])
		}
		if l, want := steps(t, x.o, x.log), stepsOf(x.o, x.log); !slices.Equal(l, want) {
			t.Fatalf("Steps with %v: %s: %v, want %v", x.o, x.log, l, want)
		}
		if n := count(t, x.o, x.log); n != len(all) {
			t.Fatalf("Count with %v: %s: %d, want %d", x.o, x.log, n, len(all))
		}
	}
	if most < mostSame/2 {
		t.Errorf("%d", most)
	}
}

// P10.4: no letter, and the longest logs.
func TestFormsEdges(t *testing.T) {
	for _, x := range []struct {
		one
		first string
		steps []string
		count int
	}{
		{one{exampleO(), ""}, "", nil, 1},
		{one{exampleO(), "d"}, "d", []string{"d"}, 1},
		{one{exampleO(), "dd"}, "dd", []string{"d", "d"}, 1},
		{one{exampleO(), "dba"}, "bad", []string{"bd", "a"}, 3},
		{one{exampleO(), "cba"}, "cba", []string{"c", "b", "a"}, 1},
		{one{exampleO(), "dcba"}, "dcba", []string{"d", "c", "b", "a"}, 1},
		{one{exampleO(), "caca"}, "aacc", []string{"ac", "ac"}, 6},
		{one{exampleO(), "dacab"}, "aadcb", []string{"ad", "ac", "b"}, 6},
		{one{allBound(6), "fedcbaabcdefab"}, "fedcbaabcdefab", []string{"f", "e", "d", "c", "b", "a", "a", "b", "c", "d", "e", "f", "a", "b"}, 1},
		{one{allFree(6), "fedcbafedcbafe"}, "aabbccddeeefff", []string{"abcdef", "abcdef", "ef"}, 151351200},
		{one{allFree(6), "fedcba"}, "abcdef", []string{"abcdef"}, 720},
		{one{allFree(2), "bbbbbbbaaaaaaa"}, "aaaaaaabbbbbbb", []string{"ab", "ab", "ab", "ab", "ab", "ab", "ab"}, 3432},
		{one{allFree(1), "aaaaaaaaaaaaaa"}, "aaaaaaaaaaaaaa", []string{"a", "a", "a", "a", "a", "a", "a", "a", "a", "a", "a", "a", "a", "a"}, 1},
		{one{office(4, "ca", "da", "db"), "dacb"}, "adcb", []string{"ad", "c", "b"}, 3},
	} {
		log, l, n := first(t, x.o, x.log), steps(t, x.o, x.log), count(t, x.o, x.log)
		if log != x.first || !slices.Equal(l, x.steps) || n != x.count {
			t.Errorf("%v: %s: %s %v %d, want %s %v %d", x.o, x.log, log, l, n, x.first, x.steps, x.count)
		}
	}
}

// isBefore is the chapter's definition.
func isBefore(o letters.Office, log string, i, k int) bool {
	return !slices.ContainsFunc(members(o, log), func(other string) bool {
		places := order(log, other)
		return places[i] > places[k]
	})
}

// P10.5, M1, M3: by all exchanges.
func TestBefore(t *testing.T) {
	always := 0
	for number, x := range ones() {
		if len(class(x.o, x.log)) > 60 && number%9 != 0 {
			continue
		}
		for i := range x.log {
			for k := range x.log {
				if i == k || len(x.log) > 5 && (i+k+number)%5 != 0 {
					continue
				}
				is, want := before(t, x.o, x.log, i, k), isBefore(x.o, x.log, i, k)
				if is != want {
					t.Fatalf("Before with %v: %s, %d, %d: %t", x.o, x.log, i, k, is)
				}
				if is && areFree(x.o, kindAt(x.log, i), kindAt(x.log, k)) {
					always++
				}
			}
		}
	}
	if always < 100 {
		t.Errorf("%d", always)
	}
}

// P10.5: indices that are none, equal ones, letters of one kind, and letters that only others keep in their order.
func TestBeforeEdges(t *testing.T) {
	o := exampleO()
	for _, x := range []struct {
		log  string
		i, k int
		want bool
		e    api.Errno
	}{
		{"", 0, 0, false, api.ErrNone},
		{"", 0, 1, false, api.ErrNone},
		{"ab", 0, 2, false, api.ErrNone},
		{"ab", 2, 0, false, api.ErrNone},
		{"ab", 2, 2, false, api.ErrNone},
		{"ab", -1, 0, false, api.ErrNone},
		{"ab", 0, -1, false, api.ErrNone},
		{"ab", -1, -1, false, api.ErrNone},
		{"ab", math.MinInt, 0, false, api.ErrNone},
		{"ab", 1, math.MaxInt, false, api.ErrNone},
		{"a", 0, 0, false, api.ErrSame},
		{"ab", 1, 1, false, api.ErrSame},
		{"ab", 0, 1, true, api.OK},
		{"ab", 1, 0, false, api.OK},
		{"aa", 0, 1, true, api.OK},
		{"aa", 1, 0, false, api.OK},
		{"ac", 0, 1, false, api.OK},
		{"ac", 1, 0, false, api.OK},
		{"abc", 0, 2, true, api.OK}, // b is between them
		{"abc", 2, 0, false, api.OK},
		{"bac", 1, 2, false, api.OK},
		{"abcd", 0, 3, true, api.OK},
		{"acbd", 0, 3, false, api.OK},
		{"adadadadadadad", 0, 13, false, api.OK},
		{"adadadadadadad", 0, 12, true, api.OK},
		{"abababcdcdcdcd", 0, 13, true, api.OK},
	} {
		if is, e := letters.Before(o, x.log, x.i, x.k); is != x.want || e != x.e {
			t.Errorf("Before with O: %s, %d, %d: %t %d, want %t %d", x.log, x.i, x.k, is, e, x.want, x.e)
		}
	}
}
