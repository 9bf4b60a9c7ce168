package letters

import (
	"strings"

	"tusche/api"
)

// Same returns whether two logs mean the same.
func Same(o Office, a, b string) (bool, api.Errno) {
	if e := checkLogs(o, a, b); e != api.OK {
		return false, e
	}
	_, _, differ := difference(o, a, b)
	return !differ, api.OK
}

// Differ returns two kinds that show that two logs do not mean the same.
func Differ(o Office, a, b string) (x, y int, e api.Errno) {
	if e := checkLogs(o, a, b); e != api.OK {
		return 0, 0, e
	}
	x, y, differ := difference(o, a, b)
	if !differ {
		return 0, 0, api.ErrSame
	}
	return x, y, api.OK
}

// difference returns the first two kinds that show that two logs do not mean the same, and whether there are any. If there are none, the logs mean the same (P10.7).
func difference(o Office, a, b string) (x, y int, differ bool) {
	bonds := bondsOf(o)
	for x := range o.Kinds {
		for y := x; y < o.Kinds; y++ {
			if bonds.bind(x, y) && only(a, x, y) != only(b, x, y) {
				return x, y, true
			}
		}
	}
	return 0, 0, false
}

// only returns a log without the letters of all kinds but two.
func only(log string, x, y int) string {
	var kept strings.Builder
	for _, name := range []byte(log) {
		if kind := kindOf(name); kind == x || kind == y {
			kept.WriteByte(name)
		}
	}
	return kept.String()
}
