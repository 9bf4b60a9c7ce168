package letters

import (
	"slices"

	"tusche/api"
)

// First returns the first form of a log.
func First(o Office, log string) (string, api.Errno) {
	if e := checkLogs(o, log); e != api.OK {
		return "", e
	}
	return newDesk(o, log).openRest(), api.OK
}

// Steps returns the steps of a log.
func Steps(o Office, log string) ([]string, api.Errno) {
	if e := checkLogs(o, log); e != api.OK {
		return nil, e
	}
	var steps []string
	d := newDesk(o, log)
	for len(d.closed) > 0 {
		step := d.open(d.ready())
		slices.Sort(step)
		steps = append(steps, string(step))
	}
	return steps, api.OK
}

// Count returns the number of logs that mean the same.
func Count(o Office, log string) (int, api.Errno) {
	if e := checkLogs(o, log); e != api.OK {
		return 0, e
	}
	return newDesk(o, log).orders(map[int]int{}), api.OK
}

// Before returns whether a letter always comes before another one.
func Before(o Office, log string, i, k int) (bool, api.Errno) {
	if e := checkLogs(o, log); e != api.OK {
		return false, e
	}
	switch {
	case !isLetter(log, i) || !isLetter(log, k):
		return false, api.ErrNone
	case i == k:
		return false, api.ErrSame
	}
	d := newDesk(o, log)
	d.openWithout(i)
	_, waits := d.closed[k]
	return waits, api.OK
}

// isLetter reports whether a number is the index of a letter.
func isLetter(log string, index int) bool {
	return index >= 0 && index < len(log)
}
