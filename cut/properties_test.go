package cut_test

import (
	"slices"
	"testing"

	"tusche/api"
	"tusche/cut"
)

// can reports whether Plan finds a plan.
func can(t *testing.T, l cut.Layout) bool {
	t.Helper()
	_, e := cut.Plan(l)
	if e != api.OK && e != api.ErrLost {
		t.Fatalf("Plan of %v: %d", l, e)
	}
	return e == api.OK
}

// alone returns a piece with its labels as a sheet of its own.
func alone(l cut.Layout, p cut.Label) cut.Layout {
	piece := cut.Layout{W: p.W, H: p.H}
	for _, n := range squaresOf(l).in(p) {
		label := l.Labels[n-1]
		label.X -= p.X
		label.Y -= p.Y
		piece.Labels = append(piece.Labels, label)
	}
	return piece
}

// P6.6, M4: what can be cut can be cut beginning with any cut.
func TestAnyCut(t *testing.T) {
	for _, l := range layouts() {
		all, e := cut.Cuts(l)
		if e != api.OK {
			t.Fatalf("Cuts of %v: %d", l, e)
		}
		for _, c := range all {
			a, b := parts(whole(l), c)
			first, second := alone(l, a), alone(l, b)
			if len(first.Labels)+len(second.Labels) != len(l.Labels) || can(t, l) != (can(t, first) && can(t, second)) {
				t.Fatalf("%v: %t; after %v: %v %t, %v %t", l, can(t, l), c, first, can(t, first), second, can(t, second))
			}
		}
	}
}

// P6.6: a layout has a plan or a piece that is blocked, and that has no cut as a sheet of its own.
func TestPlanOrBlocked(t *testing.T) {
	for _, l := range layouts() {
		place, e := cut.Blocked(l)
		if (e == api.OK) == can(t, l) {
			t.Fatalf("%v: %t, Blocked %v %d", l, can(t, l), place, e)
		}
		if e != api.OK {
			continue
		}
		piece := alone(l, place)
		if all, f := cut.Cuts(piece); len(all) > 0 || f != api.OK || len(piece.Labels) < 2 {
			t.Fatalf("Blocked of %v: %v, with the cuts %v %d", l, place, all, f)
		}
	}
}

// P6.7.
func TestFew(t *testing.T) {
	lost := 0
	for _, l := range layouts() {
		if !can(t, l) {
			if len(l.Labels) < 4 {
				t.Fatalf("Plan of %v: none", l)
			}
			if len(l.Labels) == 4 {
				lost++
			}
			continue
		}
		if plan := planOf(t, l); len(plan) != max(len(l.Labels)-1, 0) {
			t.Fatalf("Plan of %v: %v", l, plan)
		}
	}
	if lost == 0 {
		t.Error("no layout with 4 labels that cannot be cut")
	}
}

// P6.8, M1: with labels left out, and with smaller ones.
func TestLess(t *testing.T) {
	for number, l := range layouts() {
		if !can(t, l) {
			continue
		}
		next := chance(number)
		for i, label := range l.Labels {
			if less := with(l, slices.Concat(l.Labels[:i], l.Labels[i+1:])...); !can(t, less) {
				t.Fatalf("%v can be cut, %v cannot", l, less)
			}
			smaller := with(l, l.Labels...)
			w, h := 1+next(label.W), 1+next(label.H)
			smaller.Labels[i] = cut.Label{X: label.X + next(label.W-w+1), Y: label.Y + next(label.H-h+1), W: w, H: h}
			if !can(t, smaller) {
				t.Fatalf("%v can be cut, %v cannot", l, smaller)
			}
		}
	}
}

// mirrored returns a layout in the mirror.
func mirrored(l cut.Layout) cut.Layout {
	m := with(l, l.Labels...)
	for i, label := range m.Labels {
		m.Labels[i].X = l.W - label.X - label.W
	}
	return m
}

// turned returns a layout turned by a right angle.
func turned(l cut.Layout) cut.Layout {
	m := cut.Layout{W: l.H, H: l.W}
	for _, label := range l.Labels {
		m.Labels = append(m.Labels, cut.Label{X: l.H - label.Y - label.H, Y: label.X, W: label.H, H: label.W})
	}
	return m
}

// P6.9, M5.
func TestTurned(t *testing.T) {
	for number, l := range layouts() {
		next := chance(number)
		mixed := with(l, l.Labels...)
		for i := range mixed.Labels {
			j := next(i + 1)
			mixed.Labels[i], mixed.Labels[j] = mixed.Labels[j], mixed.Labels[i]
		}
		for _, other := range []cut.Layout{mirrored(l), turned(l), turned(turned(l)), turned(turned(turned(l))), mirrored(turned(l)), mixed} {
			if can(t, l) != can(t, other) {
				t.Fatalf("%v: %t, %v: %t", l, can(t, l), other, can(t, other))
			}
		}
		first, _ := cut.Cuts(l)
		second, _ := cut.Cuts(mixed)
		if !slices.Equal(first, second) {
			t.Fatalf("Cuts of %v: %v, of %v: %v", l, first, mixed, second)
		}
	}
}

// P6.10, M3: more is not worth less.
func TestMoreIsWorthMore(t *testing.T) {
	for number := range 40 {
		k := someKinds(1+number%5, 4+number%5, number)
		more := append(slices.Clone(k), someKinds(1, 6, 1000+number)...)
		greater := slices.Clone(k)
		greater[number%len(k)].Value += 1 + number%3
		for w := 1; w <= cut.MaxSide; w++ {
			for h := 1; h <= cut.MaxSide; h++ {
				n := best(t, w, h, k)
				if n > best(t, w, h, more) || n > best(t, w, h, greater) || w > 1 && n < best(t, w-1, h, k) || h > 1 && n < best(t, w, h-1, k) {
					t.Fatalf("Best of %d by %d with %v: %d", w, h, k, n)
				}
			}
		}
	}
}

// P6.10: both pieces of a cut, and the greatest Value per unit of area.
func TestBestBounds(t *testing.T) {
	for number := range 12 {
		k := someKinds(1+number%6, 3+number%6, 7*number)
		for w := 1; w <= cut.MaxSide; w++ {
			for h := 1; h <= cut.MaxSide; h++ {
				n := best(t, w, h, k)
				for at := 1; at < w; at++ {
					if n < best(t, at, h, k)+best(t, w-at, h, k) {
						t.Fatalf("Best of %d by %d with %v: %d, cut at X = %d", w, h, k, n, at)
					}
				}
				for at := 1; at < h; at++ {
					if n < best(t, w, at, k)+best(t, w, h-at, k) {
						t.Fatalf("Best of %d by %d with %v: %d, cut at Y = %d", w, h, k, n, at)
					}
				}
				within := func(kind cut.Kind) bool { return n*kind.W*kind.H <= kind.Value*w*h }
				if !slices.ContainsFunc(k, within) {
					t.Fatalf("Best of %d by %d with %v: %d", w, h, k, n)
				}
			}
		}
	}
}

// P6.11: with width and height exchanged. The order of kinds means nothing, either (M5).
func TestMirroredKinds(t *testing.T) {
	for number := range 30 {
		k := someKinds(1+number%6, 3+number%8, 13*number)
		var other []cut.Kind
		for _, kind := range k {
			other = slices.Insert(other, 0, cut.Kind{W: kind.H, H: kind.W, Value: kind.Value})
		}
		for w := 1; w <= cut.MaxSide; w++ {
			for h := 1; h <= cut.MaxSide; h++ {
				if a, b := best(t, w, h, k), best(t, h, w, other); a != b {
					t.Fatalf("Best of %d by %d with %v: %d, and %d the other way round", w, h, k, a, b)
				}
			}
		}
	}
}
