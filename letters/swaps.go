package letters

import (
	"bytes"

	"tusche/api"
)

// Swaps returns as few exchanges as possible from one log to another one.
func Swaps(o Office, a, b string) ([]int, api.Errno) {
	same, e := Same(o, a, b)
	switch {
	case e != api.OK:
		return nil, e
	case !same:
		return nil, api.ErrLost
	}
	var swaps []int
	log := []byte(a)
	for place := range log {
		// Of several letters of one kind the first one is the right one. It passes only letters that come after it in b.
		from := place + bytes.IndexByte(log[place:], b[place])
		for i := from - 1; i >= place; i-- {
			exchange(log, i)
			swaps = append(swaps, i)
		}
	}
	return swaps, api.OK
}

// Verify checks exchanges.
func Verify(o Office, a, b string, swaps []int) api.Errno {
	if e := checkLogs(o, a, b); e != api.OK {
		return e
	}
	bonds := bondsOf(o)
	log := []byte(a)
	for _, i := range swaps {
		switch {
		case i < 0 || i > len(log)-2:
			return api.ErrNone
		case bonds.bind(kindOf(log[i]), kindOf(log[i+1])):
			return api.ErrClash
		}
		exchange(log, i)
	}
	if string(log) != b {
		return api.ErrProof
	}
	return api.OK
}

// exchange exchanges two letters that are side by side.
func exchange(log []byte, i int) {
	log[i], log[i+1] = log[i+1], log[i]
}
