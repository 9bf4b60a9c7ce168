package fold

import (
	"slices"

	"tusche/api"
)

// either stands for a crease that may become a mountain or a valley.
const either = '?'

// corner is a point, and the side of its creases: even creases are at the upper ends of their segments, odd ones at the lower ends.
type corner struct {
	point int
	side  int
}

// pile is a strip whose segments are laid one upon the other, from the lowest layer up, as far as that has been done.
type pile struct {
	size    int
	folds   string
	spans   [MaxSegments]api.Bounds
	creases map[corner][]int
	layers  [MaxSegments]int
	height  int
}

// newPile returns a pile of which nothing is laid yet.
func newPile(lengths []int, folds string) pile {
	p := pile{size: len(lengths), folds: folds, spans: spansOf(lengths), creases: map[corner][]int{}}
	for crease := range p.size - 1 {
		c := p.cornerOf(crease)
		p.creases[c] = append(p.creases[c], crease)
	}
	return p
}

// foldings calls visit with each folding that the pile can become, in ascending order, until visit returns false. It reports whether visit never did.
func (p pile) foldings(visit func(order []int) bool) bool {
	if p.height == p.size {
		return visit(p.layers[:p.height])
	}
	for _, segment := range p.fitting() {
		if !p.with(segment).foldings(visit) {
			return false
		}
	}
	return true
}

// with returns the pile with one more layer.
func (p pile) with(segment int) pile {
	p.layers[p.height] = segment
	p.height++
	return p
}

// fitting returns the segments that can be the next layer, in ascending order.
func (p pile) fitting() []int {
	var found []int
layers:
	for segment := range p.size {
		if p.layerOf(segment) >= 0 {
			continue
		}
		for crease := range p.size - 1 {
			if !p.fits(segment, crease) {
				continue layers
			}
		}
		found = append(found, segment)
	}
	return found
}

// fits reports whether a crease allows a segment to be the next layer.
func (p pile) fits(segment, crease int) bool {
	if segment != crease && segment != crease+1 {
		return !p.open(crease) || !p.hides(segment, crease)
	}
	other := crease + crease + 1 - segment
	below := p.layerOf(other)
	// The one that is laid first is the lower one.
	secondHigher := (segment == crease+1) == (below >= 0)
	if !p.turns(crease, secondHigher) {
		return false
	}
	return below < 0 || p.nests(crease, below)
}

// turns reports whether the fold of a crease is such that the second one of its segments is higher than the first one, or such that it is lower.
func (p pile) turns(crease int, secondHigher bool) bool {
	switch p.folds[crease] {
	case valley:
		return secondHigher == (crease%2 == 0)
	case mountain:
		return secondHigher == (crease%2 == 1)
	}
	return true
}

// open reports whether just one of the segments of a crease is laid: what is laid now comes between both.
func (p pile) open(crease int) bool {
	return (p.layerOf(crease) >= 0) != (p.layerOf(crease+1) >= 0)
}

// hides reports whether a segment has the point of a crease strictly inside.
func (p pile) hides(segment, crease int) bool {
	span, point := p.spans[segment], p.cornerOf(crease).point
	return span.Least < point && point < span.Most
}

// nests reports whether each other crease of a crease's corner has both of its segments, or none, above the layer that the lower one of the crease is in.
func (p pile) nests(crease, below int) bool {
	between := p.layers[below+1 : p.height]
	for _, other := range p.creases[p.cornerOf(crease)] {
		if other != crease && slices.Contains(between, other) != slices.Contains(between, other+1) {
			return false
		}
	}
	return true
}

// layerOf returns the layer of a segment, or -1 if it is not laid yet.
func (p pile) layerOf(segment int) int {
	return slices.Index(p.layers[:p.height], segment)
}

// cornerOf returns the corner of a crease.
func (p pile) cornerOf(crease int) corner {
	if crease%2 == 0 {
		return corner{point: p.spans[crease].Most, side: 0}
	}
	return corner{point: p.spans[crease].Least, side: 1}
}
