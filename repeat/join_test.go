package repeat_test

import (
	"slices"
	"strings"
	"testing"

	"tusche/api"
	"tusche/repeat"
)

// P8.7, M4: by a search through all rows.
func TestJoin(t *testing.T) {
	for _, l := range joins() {
		if s, want := join(t, l), joinOf(l); s != want {
			t.Errorf("Join of %v: %s, want %s", l, s, want)
		}
	}
}

// P8.7: all pairs, and all threes, of small borders.
func TestJoinOfSmall(t *testing.T) {
	all := upTo(4, 2)
	for _, a := range all {
		for _, b := range all {
			if s, want := join(t, rows(a, b)), joinOf(rows(a, b)); s != want {
				t.Fatalf("Join of %s and %s: %s, want %s", a, b, s, want)
			}
		}
	}
	all = append(every(3, 2), "c", "cab", "bca", "cc")
	for _, a := range all {
		for _, b := range all {
			for _, c := range all {
				if s, want := join(t, rows(a, b, c)), joinOf(rows(a, b, c)); s != want {
					t.Fatalf("Join of %s, %s and %s: %s, want %s", a, b, c, s, want)
				}
			}
		}
	}
}

// P8.7: the smallest one of several; pieces of others, and of others that are joined; rows of more than MaxLength figures.
func TestJoinEdges(t *testing.T) {
	for _, x := range []struct {
		borders []string
		want    string
	}{
		{rows("z"), "z"},
		{rows("abcdefgh"), "abcdefgh"},
		{rows("b", "a"), "ab"},
		{rows("ba", "ab"), "aba"},
		{rows("ab", "ab", "ab"), "ab"},
		{rows("abc", "b"), "abc"},
		{rows("b", "abc"), "abc"},
		{rows("aa", "a", "aaaa", "aaa"), "aaaa"},
		{rows("abcd", "cdef", "bcde"), "abcdef"},
		{rows("abab", "baba"), "ababa"},
		{rows("zy", "yx", "xz"), "xzyx"},
		{rows("aab", "baa"), "baab"},
		{rows("aaaaaaaa", "bbbbbbbb", "cccccccc", "dddddddd", "eeeeeeee"), "aaaaaaaabbbbbbbbccccccccddddddddeeeeeeee"},
		{rows("eeeeeeee", "dddddddd", "cccccccc", "bbbbbbbb", "aaaaaaaa"), "aaaaaaaabbbbbbbbccccccccddddddddeeeeeeee"},
		{rows("abcaa", "bcaab", "bcaac"), "bcaabcaac"}, // whoever joins abcaa and bcaab first, with the longest overlap, needs 10 figures
	} {
		if s := join(t, x.borders); s != x.want {
			t.Errorf("Join of %v: %s, want %s", x.borders, s, x.want)
		}
	}
}

// P8.7: the errors, in their order; the first border with an error decides.
func TestJoinErrors(t *testing.T) {
	nine, long := strings.Repeat("a", 9), strings.Repeat("a", 25)
	for _, x := range []struct {
		borders []string
		want    api.Errno
	}{
		{nil, api.ErrEmpty},
		{rows(), api.ErrEmpty},
		{rows("a", "b", "c", "d", "e", "f"), api.ErrMany},
		{rows("a", "a", "a", "a", "a", "a"), api.ErrMany},
		{rows("", "", "", "", "", ""), api.ErrMany},
		{slices.Repeat(rows("A"), 5000), api.ErrMany},
		{rows(""), api.ErrEmpty},
		{rows("a", "b", "c", "d", ""), api.ErrEmpty},
		{rows(nine), api.ErrLong},
		{rows("abcdefgh", "abcdefghi"), api.ErrLong},
		{rows(strings.Repeat("a", 24)), api.ErrLong},
		{rows(long), api.ErrLong},
		{rows("a", "B"), api.ErrForm},
		{rows("ab cd"), api.ErrForm},
		{rows(nine[1:] + "A"), api.ErrForm},   // before the number of figures
		{rows(long + "A"), api.ErrLong},       // of Check
		{rows(nine, ""), api.ErrLong},         // the first border
		{rows("", nine), api.ErrEmpty},        // the first border
		{rows("a", "A", nine), api.ErrForm},   // the first border
		{rows("a", nine, "A"), api.ErrLong},   // the first border
		{rows("a", "ä", "", ""), api.ErrForm}, // the first border
	} {
		if s, e := repeat.Join(x.borders); s != "" || e != x.want {
			t.Errorf("Join of %q: %s %d, want %d", x.borders, s, e, x.want)
		}
	}
}
