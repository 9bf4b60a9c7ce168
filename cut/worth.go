package cut

import "tusche/api"

// deal is the most that a piece of some size can be worth, with as few labels as possible, and its first cut, or At 0 if it is sold as it is, or thrown away.
type deal struct {
	worth  int
	labels int
	cut    line
}

// deals are those of all pieces, by width and height.
type deals [MaxSide + 1][MaxSide + 1]deal

// Best returns the best worth of a sheet.
func Best(w, h int, kinds []Kind) (int, api.Errno) {
	if e := checkSale(w, h, kinds); e != api.OK {
		return 0, e
	}
	return dealsOf(w, h, kinds)[w][h].worth, api.OK
}

// Lay returns a layout of the best worth.
func Lay(w, h int, kinds []Kind) (Layout, api.Errno) {
	if e := checkSale(w, h, kinds); e != api.OK {
		return Layout{}, e
	}
	d := dealsOf(w, h, kinds)
	if d[w][h].labels > MaxLabels {
		return Layout{}, api.ErrOver
	}
	return Layout{W: w, H: h, Labels: sold(d, Label{W: w, H: h})}, api.OK
}

// Worth returns what the labels of a layout are worth.
func Worth(l Layout, kinds []Kind) (int, api.Errno) {
	if e := Check(l); e != api.OK {
		return 0, e
	}
	if e := checkKinds(kinds); e != api.OK {
		return 0, e
	}
	sum := 0
	for _, label := range l.Labels {
		value, is := valueOf(label.W, label.H, kinds)
		if !is {
			return 0, api.ErrProof
		}
		sum += value
	}
	return sum, api.OK
}

// checkSale returns the error of what Best and Lay are given.
func checkSale(w, h int, kinds []Kind) api.Errno {
	if !isSide(w) || !isSide(h) {
		return api.ErrSize
	}
	return checkKinds(kinds)
}

// valueOf returns the greatest Value of a kind of a size, and whether there is one.
func valueOf(w, h int, kinds []Kind) (int, bool) {
	value, is := 0, false
	for _, k := range kinds {
		if k.W == w && k.H == h {
			value, is = max(value, k.Value), true
		}
	}
	return value, is
}

// dealsOf returns the deals of all pieces up to a size.
func dealsOf(w, h int, kinds []Kind) deals {
	var d deals
	for width := 1; width <= w; width++ {
		for height := 1; height <= h; height++ {
			d[width][height] = bestDeal(d, width, height, kinds)
		}
	}
	return d
}

// bestDeal returns the deal of a piece, from those of the smaller ones. If a piece with as few labels as possible is cut, both of its pieces have as few as possible for their best worths, since worths and labels are just added.
func bestDeal(d deals, w, h int, kinds []Kind) deal {
	best := deal{}
	if value, _ := valueOf(w, h, kinds); value > 0 {
		best = deal{worth: value, labels: 1}
	}
	whole := Label{W: w, H: h}
	for _, c := range lines(whole) {
		first, second := halves(whole, c)
		a, b := d[first.W][first.H], d[second.W][second.H]
		if both := (deal{a.worth + b.worth, a.labels + b.labels, c}); isBetter(both, best) {
			best = both
		}
	}
	return best
}

// isBetter reports whether a deal is worth more than another one, or as much with fewer labels.
func isBetter(a, b deal) bool {
	return a.worth > b.worth || a.worth == b.worth && a.labels < b.labels
}

// sold returns the labels that the deal of a place sells.
func sold(d deals, place Label) []Label {
	best := d[place.W][place.H]
	switch {
	case best.worth == 0:
		return nil
	case best.cut.At == 0:
		return []Label{place}
	}
	c := best.cut
	if c.isUp() {
		c.At += place.X
	} else {
		c.At += place.Y
	}
	first, second := halves(place, c)
	return append(sold(d, first), sold(d, second)...)
}
