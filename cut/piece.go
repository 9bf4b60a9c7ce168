package cut

import "slices"

// line is a cut that can be asked of which kind it is, and what it does.
type line Cut

func (c line) isUp() bool   { return c.Up }
func (c line) isFlat() bool { return !c.Up }

// piece is a rectangle of a sheet, and the labels that lie in it.
type piece struct {
	place  Label
	labels []Label
}

// sheetOf returns the whole sheet of a layout.
func sheetOf(l Layout) piece {
	return piece{Label{W: l.W, H: l.H}, l.Labels}
}

// span returns where a label, or a piece, begins and ends in the direction in which At counts.
func (c line) span(place Label) (from, to int) {
	if c.isUp() {
		return place.X, place.X + place.W
	}
	return place.Y, place.Y + place.H
}

// lines returns all lines strictly inside a place, by ascending At.
func lines(place Label) []line {
	var all []line
	for at := 1; at < MaxSide; at++ {
		for _, c := range []line{{Up: true, At: at}, {Up: false, At: at}} {
			if from, to := c.span(place); from < at && at < to {
				all = append(all, c)
			}
		}
	}
	return all
}

// cutsOf returns all cuts of a piece: those of a kind together, by ascending At.
func cutsOf(p piece) []Cut {
	var cuts []Cut
	for _, isOfKind := range []func(line) bool{line.isUp, line.isFlat} {
		for _, c := range lines(p.place) {
			if isOfKind(c) && isCut(p, c) {
				cuts = append(cuts, Cut(c))
			}
		}
	}
	return cuts
}

// isCut reports whether a line is a cut of a piece. It does not ask for the piece's edges: a line with labels of the piece on both of its sides lies strictly inside it.
func isCut(p piece, c line) bool {
	for _, label := range p.labels {
		if from, to := c.span(label); from < c.At && c.At < to {
			return false
		}
	}
	first, second := divide(p.labels, c)
	return len(first) > 0 && len(second) > 0
}

// divide returns the labels of both sides of a line that goes through none of them.
func divide(labels []Label, c line) (first, second []Label) {
	all := slices.Clone(labels)
	count := 0
	for i, label := range all {
		if _, to := c.span(label); to <= c.At {
			all[i], all[count] = all[count], all[i]
			count++
		}
	}
	return all[:count:count], all[count:]
}

// split returns the two pieces that a cut makes of one.
func split(p piece, c line) (first, second piece) {
	first.place, second.place = halves(p.place, c)
	first.labels, second.labels = divide(p.labels, c)
	return first, second
}

// halves returns the places of both pieces that a line makes of a place.
func halves(place Label, c line) (first, second Label) {
	first, second = place, place
	from, to := c.span(place)
	if c.isUp() {
		first.W, second.X, second.W = c.At-from, c.At, to-c.At
	} else {
		first.H, second.Y, second.H = c.At-from, c.At, to-c.At
	}
	return first, second
}
