package cut_test

import (
	"slices"
	"testing"

	"tusche/api"
	"tusche/cut"
)

func list(l ...int) []int { return l }

// up and flat return a cut of each kind.
func up(at int) cut.Cut   { return cut.Cut{Up: true, At: at} }
func flat(at int) cut.Cut { return cut.Cut{At: at} }

func cuts(l ...cut.Cut) []cut.Cut { return l }

func kinds(l ...cut.Kind) []cut.Kind { return l }

// sheet returns a layout: X, Y, W and H of labels take turns.
func sheet(w, h int, l ...int) cut.Layout {
	s := cut.Layout{W: w, H: h}
	for i := 0; i+3 < len(l); i += 4 {
		s.Labels = append(s.Labels, cut.Label{X: l[i], Y: l[i+1], W: l[i+2], H: l[i+3]})
	}
	return s
}

// with returns a layout with other labels.
func with(l cut.Layout, labels ...cut.Label) cut.Layout {
	return cut.Layout{W: l.W, H: l.H, Labels: slices.Clone(labels)}
}

// drawn returns a sheet with a text for each row of unit squares, the highest one first. All squares with one letter are one label; a dot is no label. Labels come in the order of their letters.
func drawn(rows ...string) cut.Layout {
	l := cut.Layout{W: len(rows[0]), H: len(rows)}
	for letter := 'A'; letter <= 'Z'; letter++ {
		var label cut.Label
		for i, text := range rows {
			for x, other := range text {
				if other != letter {
					continue
				}
				y := l.H - 1 - i
				if label.W == 0 {
					label = cut.Label{X: x, Y: y, W: 1, H: 1}
				}
				label.H += label.Y - y
				label.Y = y
				label.W = max(label.W, x+1-label.X)
			}
		}
		if label.W > 0 {
			l.Labels = append(l.Labels, label)
		}
	}
	return l
}

// exampleL and exampleM are L and M of the chapter's examples.
func exampleL() cut.Layout {
	return sheet(6, 4, 0, 0, 2, 4, 2, 0, 4, 2, 2, 2, 2, 2, 4, 2, 2, 2)
}

func exampleM() cut.Layout {
	return sheet(3, 3, 0, 0, 2, 1, 2, 0, 1, 2, 1, 2, 2, 1, 0, 1, 1, 2, 1, 1, 1, 1)
}

// squares are the numbers of labels from 1 on, or 0, of all unit squares of a sheet.
type squares [cut.MaxSide][cut.MaxSide]int

func squaresOf(l cut.Layout) squares {
	var s squares
	for i, label := range l.Labels {
		for x := range label.W {
			for y := range label.H {
				s[label.X+x][label.Y+y] = i + 1
			}
		}
	}
	return s
}

// whole returns the place of a whole sheet.
func whole(l cut.Layout) cut.Label { return cut.Label{W: l.W, H: l.H} }

// in returns the numbers of the labels with a square in a place, in ascending order.
func (s squares) in(p cut.Label) []int {
	var all []int
	for x := range p.W {
		for y := range p.H {
			if n := s[p.X+x][p.Y+y]; n != 0 && !slices.Contains(all, n) {
				all = append(all, n)
			}
		}
	}
	slices.Sort(all)
	return all
}

// parts returns the places of both pieces.
func parts(p cut.Label, c cut.Cut) (first, second cut.Label) {
	if c.Up {
		return cut.Label{X: p.X, Y: p.Y, W: c.At - p.X, H: p.H}, cut.Label{X: c.At, Y: p.Y, W: p.X + p.W - c.At, H: p.H}
	}
	return cut.Label{X: p.X, Y: p.Y, W: p.W, H: c.At - p.Y}, cut.Label{X: p.X, Y: c.At, W: p.W, H: p.Y + p.H - c.At}
}

// isCut reports whether a cut of a piece is one, as the chapter defines it: no label has squares on both of its sides, and each side has a label.
func (s squares) isCut(p cut.Label, c cut.Cut) bool {
	if c.Up && (c.At <= p.X || c.At >= p.X+p.W) || !c.Up && (c.At <= p.Y || c.At >= p.Y+p.H) {
		return false
	}
	a, b := parts(p, c)
	first, second := s.in(a), s.in(b)
	common := slices.ContainsFunc(first, func(n int) bool { return slices.Contains(second, n) })
	return len(first) > 0 && len(second) > 0 && !common
}

// cuts returns all cuts of a piece, in the order of P6.1.
func (s squares) cuts(p cut.Label) []cut.Cut {
	var all []cut.Cut
	for _, isUp := range []bool{true, false} {
		for at := range cut.MaxSide + 1 {
			if c := (cut.Cut{Up: isUp, At: at}); s.isCut(p, c) {
				all = append(all, c)
			}
		}
	}
	return all
}

// canBeCut reports whether the labels of a piece can be cut apart, beginning with any cut.
func (s squares) canBeCut(p cut.Label, known map[cut.Label]bool) bool {
	if is, has := known[p]; has {
		return is
	}
	is := len(s.in(p)) < 2
	for _, c := range s.cuts(p) {
		a, b := parts(p, c)
		is = is || s.canBeCut(a, known) && s.canBeCut(b, known)
	}
	known[p] = is
	return is
}

// canBeCut reports whether a layout can be cut, as the chapter defines it.
func canBeCut(l cut.Layout) bool {
	return squaresOf(l).canBeCut(whole(l), map[cut.Label]bool{})
}

// pieces returns all pieces to which some cuts lead.
func (s squares) pieces(p cut.Label, known map[cut.Label]bool) {
	if known[p] {
		return
	}
	known[p] = true
	for _, c := range s.cuts(p) {
		a, b := parts(p, c)
		s.pieces(a, known)
		s.pieces(b, known)
	}
}

// apart does the first cuts of a plan at a piece, and then at both of its pieces. It returns the cuts that are left.
func (s squares) apart(p cut.Label, plan []cut.Cut) ([]cut.Cut, api.Errno) {
	if len(s.in(p)) < 2 {
		return plan, api.OK
	}
	if len(plan) == 0 {
		return nil, api.ErrOpen
	}
	if !s.isCut(p, plan[0]) {
		return nil, api.ErrProof
	}
	a, b := parts(p, plan[0])
	rest, e := s.apart(a, plan[1:])
	if e != api.OK {
		return nil, e
	}
	return s.apart(b, rest)
}

// verified returns what Verify is to return for a valid layout.
func verified(l cut.Layout, plan []cut.Cut) api.Errno {
	rest, e := squaresOf(l).apart(whole(l), plan)
	if e == api.OK && len(rest) > 0 {
		return api.ErrShut
	}
	return e
}

// chance returns a function whose numbers follow from one number, and from no rule otherwise.
func chance(number int) func(limit int) int {
	state := uint32(number)
	return func(limit int) int {
		state = state*1664525 + 1013904223
		return int(state>>16) % limit
	}
}

// visitLayouts visits all layouts of a size: each unit square, column by column, is the lower left corner of a label, or is left empty if it is not in one already.
func visitLayouts(w, h int, visit func(l cut.Layout)) {
	var used squares
	var grow func(square int, labels []cut.Label)
	grow = func(square int, labels []cut.Label) {
		if square == w*h {
			visit(cut.Layout{W: w, H: h, Labels: slices.Clone(labels)})
			return
		}
		grow(square+1, labels)
		x, y := square/h, square%h
		for high := 1; y+high <= h && used[x][y+high-1] == 0; high++ {
			for wide := 1; x+wide <= w; wide++ {
				label := cut.Label{X: x, Y: y, W: wide, H: high}
				mark(&used, label, 1)
				grow(square+1, append(labels, label))
				mark(&used, label, -1)
			}
		}
	}
	grow(0, nil)
}

// mark adds a number to the squares of a label.
func mark(s *squares, label cut.Label, number int) {
	for x := range label.W {
		for y := range label.H {
			s[label.X+x][label.Y+y] += number
		}
	}
}

// smallLayouts returns all layouts of the smallest sheets.
func smallLayouts() []cut.Layout {
	var all []cut.Layout
	for _, size := range [][2]int{{1, 1}, {1, 2}, {2, 1}, {2, 2}, {1, 4}, {4, 1}, {2, 3}, {3, 2}, {3, 3}} {
		visitLayouts(size[0], size[1], func(l cut.Layout) { all = append(all, l) })
	}
	return all
}

// mixed returns a sheet with labels thrown at any place where they clash with none.
func mixed(w, h, labels, side, number int) cut.Layout {
	next := chance(number)
	l := cut.Layout{W: w, H: h}
	for range 60 {
		label := cut.Label{W: 1 + next(min(side, w)), H: 1 + next(min(side, h))}
		label.X, label.Y = next(w-label.W+1), next(h-label.H+1)
		if len(l.Labels) < labels && len(squaresOf(l).in(label)) == 0 {
			l.Labels = append(l.Labels, label)
		}
	}
	return l
}

// divided returns a sheet that is divided again and again: a piece is cut, or becomes one label, or five in a whirl around one if whirls are wanted.
func divided(w, h, number int, whirls bool) cut.Layout {
	next := chance(number)
	l := cut.Layout{W: w, H: h}
	var divide func(p cut.Label, depth int)
	divide = func(p cut.Label, depth int) {
		switch {
		case whirls && p.W > 2 && p.H > 2 && next(2) == 0:
			l.Labels = append(l.Labels, whirl(p, next)...)
		case depth == 0 || p.W == 1 && p.H == 1:
			l.Labels = append(l.Labels, p)
		default:
			c := cut.Cut{Up: p.H == 1 || p.W > 1 && next(2) == 0}
			if c.Up {
				c.At = p.X + 1 + next(p.W-1)
			} else {
				c.At = p.Y + 1 + next(p.H-1)
			}
			a, b := parts(p, c)
			divide(a, depth-1)
			divide(b, depth-1)
		}
	}
	divide(whole(l), 3)
	l.Labels = l.Labels[:min(len(l.Labels), cut.MaxLabels)]
	for i := range l.Labels { // in any order
		j := next(i + 1)
		l.Labels[i], l.Labels[j] = l.Labels[j], l.Labels[i]
	}
	return l
}

// whirl returns four labels around a fifth one: each of the four keeps the next one from being cut off.
func whirl(p cut.Label, next func(int) int) []cut.Label {
	a, b := 1+next(p.W-2), 1+next(p.H-2)
	c, d := a+1+next(p.W-a-1), b+1+next(p.H-b-1)
	return []cut.Label{
		{X: p.X, Y: p.Y, W: c, H: b}, {X: p.X + c, Y: p.Y, W: p.W - c, H: d}, {X: p.X + a, Y: p.Y + d, W: p.W - a, H: p.H - d},
		{X: p.X, Y: p.Y + b, W: a, H: p.H - b}, {X: p.X + a, Y: p.Y + b, W: c - a, H: d - b},
	}
}

// bigLayouts returns layouts of many sizes, up to 12 by 12 with 10 labels.
func bigLayouts() []cut.Layout {
	all := []cut.Layout{exampleL(), exampleM(), sheet(12, 12), sheet(12, 12, 0, 0, 12, 12), drawn("ABCDEFGHIJ"), drawn("AAB", "C.B", "CDD"), drawn("A..B", "....", "C..D")}
	for number := range 144 {
		w, h := 1+number%12, 1+number/12
		all = append(all, mixed(w, h, 10, 4, number), mixed(13-w, 13-h, 2+number%9, 6, 3*number), divided(w, h, number, false), divided(w, h, number, true), divided(12-w%6, 12-h%6, number, true))
	}
	return all
}

// layouts returns layouts of all sizes.
func layouts() []cut.Layout {
	return slices.Concat(smallLayouts(), bigLayouts())
}

// bestWith returns the best worth of a sheet with at most so many labels sold: of all ways to share them out between both pieces of a cut.
func bestWith(w, h, labels int, k []cut.Kind, known map[[3]int]int) int {
	key := [3]int{w, h, labels}
	if best, is := known[key]; is || labels == 0 {
		return best
	}
	best := 0
	for _, kind := range k {
		if kind.W == w && kind.H == h {
			best = max(best, kind.Value)
		}
	}
	for some := range labels + 1 {
		for at := 1; at < w; at++ {
			best = max(best, bestWith(at, h, some, k, known)+bestWith(w-at, h, labels-some, k, known))
		}
		for at := 1; at < h; at++ {
			best = max(best, bestWith(w, at, some, k, known)+bestWith(w, h-at, labels-some, k, known))
		}
	}
	known[key] = best
	return best
}

// someKinds returns a list of kinds up to a side; some have the same size, some are worth nothing.
func someKinds(size, side, number int) []cut.Kind {
	next := chance(number)
	var l []cut.Kind
	for range size {
		k := cut.Kind{W: 1 + next(side), H: 1 + next(side)}
		k.Value = next(k.W*k.H*3 + 1)
		l = append(l, k)
	}
	return l
}

// errorOf returns only the error of a result.
func errorOf[T any](_ T, e api.Errno) api.Errno { return e }

func planOf(t *testing.T, l cut.Layout) []cut.Cut {
	t.Helper()
	plan, e := cut.Plan(l)
	if e != api.OK {
		t.Fatalf("Plan of %v: %d", l, e)
	}
	return plan
}

func best(t *testing.T, w, h int, k []cut.Kind) int {
	t.Helper()
	n, e := cut.Best(w, h, k)
	if e != api.OK {
		t.Fatalf("Best of %d by %d with %v: %d", w, h, k, e)
	}
	return n
}
