package letters_test

import (
	"slices"
	"strings"
	"testing"

	"tusche/api"
	"tusche/letters"
)

// restOf is the chapter's definition: the smallest log that can follow a, and whether a begins b.
func restOf(o letters.Office, a, b string) (string, bool) {
	for _, other := range members(o, b) { // in ascending order, and so is what follows in those that begin with a
		if strings.HasPrefix(other, a) {
			return other[len(a):], true
		}
	}
	return "", false
}

// P10.6, M3: by all exchanges.
func TestRest(t *testing.T) {
	begun := 0
	for _, x := range twos() {
		want, is := restOf(x.o, x.a, x.b)
		log, e := letters.Rest(x.o, x.a, x.b)
		if log != want || is != (e == api.OK) || !is && e != api.ErrLost {
			t.Fatalf("Rest with %v: %s and %s: %s %d, want %s", x.o, x.a, x.b, log, e, want)
		}
		if is && want != "" && !strings.HasPrefix(x.b, x.a) {
			begun++
		}
	}
	if begun < 500 {
		t.Errorf("%d", begun)
	}
}

// beginningsOf returns all logs that begin a log.
func beginningsOf(o letters.Office, log string) map[string]bool {
	found := map[string]bool{}
	for _, other := range members(o, log) {
		for size := range len(other) + 1 {
			found[other[:size]] = true
		}
	}
	return found
}

// commonOf is the chapter's definition: all logs that begin both, the shorter ones first, and equally long ones in ascending order.
func commonOf(o letters.Office, a, b string) []string {
	var all []string
	other := beginningsOf(o, b)
	for log := range beginningsOf(o, a) {
		if other[log] {
			all = append(all, log)
		}
	}
	slices.SortFunc(all, shorter)
	return all
}

// P10.6, M3, M4: the first of the longest logs that begin both, by all exchanges.
func TestCommon(t *testing.T) {
	long := 0
	for number, x := range twos() {
		if len(class(x.o, x.a))+len(class(x.o, x.b)) > 300 && number%20 != 0 {
			continue
		}
		all := commonOf(x.o, x.a, x.b)
		i := slices.IndexFunc(all, func(log string) bool { return len(log) == len(all[len(all)-1]) })
		if log := common(t, x.o, x.a, x.b); log != all[i] {
			t.Fatalf("Common with %v: %s and %s: %s, want %s", x.o, x.a, x.b, log, all[i])
		}
		if len(all[i]) > 2 && !strings.HasPrefix(x.a, all[i]) && !strings.HasPrefix(x.b, all[i]) {
			long++
		}
	}
	if long < 100 {
		t.Errorf("%d", long)
	}
}

// P10.6, P10.12: it is begun by each log that begins both.
func TestCommonIsBegun(t *testing.T) {
	for number, x := range twos() {
		if len(x.a) > 3 && number%5 != 0 || len(class(x.o, x.a))+len(class(x.o, x.b)) > 100 {
			continue
		}
		log := common(t, x.o, x.a, x.b)
		for _, other := range commonOf(x.o, x.a, x.b) {
			rest(t, x.o, other, log)
		}
	}
}

// P10.6: logs without letters, equal ones, ones that are longer, and the longest ones.
func TestBeginningsEdges(t *testing.T) {
	o := exampleO()
	for _, x := range []struct {
		two
		rest   string
		e      api.Errno
		common string
	}{
		{two{o, "", ""}, "", api.OK, ""},
		{two{o, "", "ca"}, "ac", api.OK, ""},
		{two{o, "ca", ""}, "", api.ErrLost, ""},
		{two{o, "ca", "ac"}, "", api.OK, "ac"},
		{two{o, "ab", "ba"}, "", api.ErrLost, ""},
		{two{o, "ab", "ab"}, "", api.OK, "ab"},
		{two{o, "ab", "abc"}, "c", api.OK, "ab"},
		{two{o, "abc", "ab"}, "", api.ErrLost, "ab"},
		{two{o, "c", "abc"}, "", api.ErrLost, ""},
		{two{o, "c", "aac"}, "aa", api.OK, "c"},
		{two{o, "d", "ababd"}, "abab", api.OK, "d"},
		{two{o, "dd", "ababd"}, "", api.ErrLost, "d"},
		{two{o, "a", "caaca"}, "aacc", api.OK, "a"},
		{two{o, "ca", "acb"}, "b", api.OK, "ac"},
		{two{o, "cab", "acd"}, "", api.ErrLost, "ac"},
		{two{o, "cb", "cab"}, "", api.ErrLost, "c"}, // a is in the way of b
		{two{o, "acd", "adc"}, "", api.ErrLost, "a"},
		{two{o, "db", "bd"}, "", api.OK, "bd"},
		{two{o, "bab", "dbba"}, "", api.ErrLost, "b"},
		{two{allFree(6), "f", "abcdefabcdefab"}, "aaabbbccddeef", api.OK, "f"},
		{two{allFree(6), "abcdefabcdefab", "ffeeddccbbbaaa"}, "", api.OK, "aaabbbccddeeff"},
		{two{allFree(6), "aaaaaaaaaaaaaa", "bbbbbbbbbbbbbb"}, "", api.ErrLost, ""},
		{two{allFree(6), "aaaaabbb", "cbbbbaaa"}, "", api.ErrLost, "aaabbb"},
		{two{allBound(6), "abcdefabcdefa", "abcdefabcdefab"}, "b", api.OK, "abcdefabcdefa"},
		{two{allBound(6), "abcdefabcdefb", "abcdefabcdefab"}, "", api.ErrLost, "abcdefabcdef"},
	} {
		log, e := letters.Rest(x.o, x.a, x.b)
		if both := common(t, x.o, x.a, x.b); log != x.rest || e != x.e || both != x.common {
			t.Errorf("%v: %s and %s: %s %d %s, want %s %d %s", x.o, x.a, x.b, log, e, both, x.rest, x.e, x.common)
		}
	}
}
