package repeat_test

import (
	"strings"
	"testing"

	"tusche/api"
	"tusche/repeat"
)

// badBorder is a border with an error.
type badBorder struct {
	border string
	want   api.Errno
}

// badBorders are borders that are not valid, with their errors.
func badBorders() []badBorder {
	all := []badBorder{
		{"", api.ErrEmpty},
		{strings.Repeat("a", 25), api.ErrLong},
		{strings.Repeat("ab", 3000), api.ErrLong},
		{strings.Repeat("A", 25), api.ErrLong},                // before the figures
		{strings.Repeat("\xff", 25), api.ErrLong},             // before the figures
		{strings.Repeat("ä", 13), api.ErrLong},                // bytes count, not letters
		{strings.Repeat("\U0001f5bc", 7), api.ErrLong},        // 28 bytes
		{strings.Repeat("ä", 12), api.ErrForm},                // 24 bytes
		{strings.Repeat("a", 23) + "\x00", api.ErrForm},       // at the end
		{"{" + strings.Repeat("z", 23), api.ErrForm},          // at the beginning
		{"š", api.ErrForm},                                    // U+0161, whose lowest byte is an a
		{"\uff41\uff42", api.ErrForm},                         // wide letters
		{"a\u0301", api.ErrForm},                              // an accent behind an a
		{"a\xe2\x82", api.ErrForm},                            // half a letter
		{"\xed\xa0\x80", api.ErrForm},                         // half a pair
		{"\xc1\xa1", api.ErrForm},                             // an a in two bytes
		{"\ufffd", api.ErrForm},                               // what stands for bytes that are no text
		{"\ufeffabc", api.ErrForm},                            // a mark before a text
		{"ab" + strings.Repeat("\xff", 3) + "c", api.ErrForm}, // within it
		{"A", api.ErrForm}, {"Z", api.ErrForm}, {"abC", api.ErrForm}, {"a b", api.ErrForm}, {" ", api.ErrForm}, {"ab\n", api.ErrForm}, {"a1", api.ErrForm}, {"-a", api.ErrForm}, {"a,b", api.ErrForm}, {"aß", api.ErrForm},
	}
	for b := range 256 {
		if b < 'a' || b > 'z' {
			figure := string([]byte{byte(b)})
			all = append(all, badBorder{figure, api.ErrForm}, badBorder{"abc" + figure + "abc", api.ErrForm})
		}
	}
	return all
}

// P8.1 to P8.7: all functions return the error of Check, before all others.
func TestBadBorders(t *testing.T) {
	for _, x := range badBorders() {
		q := question{border: x.border, other: "a", n: 1, p: 1, q: 1, kinds: 1, joined: rows("a", x.border, "A")}
		a := ask(q)
		for i, e := range a.errors {
			want := x.want
			if i == wideError || i == ringsError {
				want = api.OK
			}
			if e != want {
				t.Errorf("function %d of %q: %d, want %d", i, x.border, e, want)
			}
		}
		a.checkNothing(t, q)
	}
}

// P8.1: all figures, and all sizes.
func TestCheck(t *testing.T) {
	all := borders()
	for figure := 'a'; figure <= 'z'; figure++ {
		all = append(all, string(figure), "mn"+string(figure), strings.Repeat(string(figure), 24))
	}
	for _, border := range all {
		if e := repeat.Check(border); e != api.OK {
			t.Fatalf("Check of %s: %d", border, e)
		}
	}
}
