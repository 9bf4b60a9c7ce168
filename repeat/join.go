package repeat

import (
	"cmp"
	"slices"
	"strings"

	"tusche/api"
)

// Join returns the smallest of the shortest joint rows.
func Join(borders []string) (string, api.Errno) {
	if e := checkParts(borders); e != api.OK {
		return "", e
	}
	return strings.Clone(joined("", borders)), api.OK
}

// checkParts returns the error of borders that are to be joined.
func checkParts(borders []string) api.Errno {
	switch {
	case len(borders) == 0:
		return api.ErrEmpty
	case len(borders) > MaxJoined:
		return api.ErrMany
	}
	for _, border := range borders {
		if e := Check(border); e != api.OK {
			return e
		}
		if len(border) > MaxPart {
			return api.ErrLong
		}
	}
	return api.OK
}

// joined returns the first row by length, and then by bytes, to which a row grows when it takes in some borders, in any order.
// All shortest joint rows are among these rows: in such a row, the borders that are no pieces of others begin one after the other, each as early as it can.
func joined(row string, borders []string) string {
	best := row
	for i, border := range borders {
		others := slices.Concat(borders[:i], borders[i+1:])
		other := joined(grown(row, border), others)
		if i == 0 || compareRows(other, best) < 0 {
			best = other
		}
	}
	return best
}

// grown returns a row with as few figures more at its end as it takes to contain a border.
func grown(row, border string) string {
	if strings.Contains(row, border) {
		return row
	}
	overlap := min(len(row), len(border))
	for !strings.HasSuffix(row, border[:overlap]) {
		overlap--
	}
	return row + border[overlap:]
}

// compareRows compares rows by length, and then by bytes.
func compareRows(a, b string) int {
	return cmp.Or(cmp.Compare(len(a), len(b)), strings.Compare(a, b))
}
