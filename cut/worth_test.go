package cut_test

import (
	"math"
	"slices"
	"testing"

	"tusche/api"
	"tusche/cut"
)

// badSale is a sheet and kinds with an error.
type badSale struct {
	w, h  int
	kinds []cut.Kind
	want  api.Errno
}

// badSales are sheets and kinds that are not valid, with their errors.
func badSales() []badSale {
	good := cut.Kind{W: 1, H: 1, Value: 1}
	all := []badSale{
		{0, 1, nil, api.ErrSize}, // the size of the sheet comes before all other errors
		{1, 13, slices.Repeat(kinds(good), 7), api.ErrSize},
		{1, 1, nil, api.ErrEmpty},
		{1, 1, slices.Repeat(kinds(good), 7), api.ErrMany},
		{1, 1, slices.Repeat(kinds(good), 5000), api.ErrMany},
		{1, 1, slices.Repeat(kinds(cut.Kind{}), 7), api.ErrMany}, // before what is wrong with a kind
		{12, 12, append(slices.Repeat(kinds(good), 5), cut.Kind{W: 0, H: 1}), api.ErrSize},
		{12, 12, kinds(cut.Kind{W: 1, H: 1, Value: 1001}, good), api.ErrSize},
	}
	for _, n := range list(0, -1, 13, math.MinInt, math.MaxInt) {
		all = append(all, badSale{n, 3, kinds(good), api.ErrSize}, badSale{3, n, kinds(good), api.ErrSize},
			badSale{3, 3, kinds(cut.Kind{W: n, H: 1, Value: 1}), api.ErrSize}, badSale{3, 3, kinds(good, cut.Kind{W: 1, H: n, Value: 1}), api.ErrSize})
	}
	for _, n := range list(-1, 1001, math.MinInt, math.MaxInt) {
		all = append(all, badSale{3, 3, kinds(good, cut.Kind{W: 1, H: 1, Value: n}), api.ErrSize})
	}
	return all
}

// P6.4, P6.5: the errors of sheets and kinds.
func TestBadSales(t *testing.T) {
	for i, x := range badSales() {
		n, e := cut.Best(x.w, x.h, x.kinds)
		l, f := cut.Lay(x.w, x.h, x.kinds)
		if e != x.want || f != x.want || n != 0 || l.W != 0 || l.H != 0 || len(l.Labels) > 0 {
			t.Errorf("%d: Best of %d by %d with %v: %d %d, Lay: %v %d, want %d", i, x.w, x.h, x.kinds, n, e, l, f, x.want)
		}
		if x.w < 1 || x.h < 1 || x.w > 12 || x.h > 12 {
			continue
		}
		if n, e := cut.Worth(sheet(2, 2, 0, 0, 2, 2), x.kinds); e != x.want || n != 0 {
			t.Errorf("%d: Worth with %v: %d %d, want %d", i, x.kinds, n, e, x.want)
		}
	}
}

// P6.4: the smallest and the greatest sheets and kinds.
func TestSaleEdges(t *testing.T) {
	for _, x := range []struct {
		w, h  int
		kinds []cut.Kind
		want  int
	}{
		{1, 1, kinds(cut.Kind{W: 1, H: 1, Value: 1000}), 1000},
		{1, 1, kinds(cut.Kind{W: 1, H: 1, Value: 0}), 0},
		{1, 1, kinds(cut.Kind{W: 12, H: 12, Value: 1000}), 0},
		{12, 12, kinds(cut.Kind{W: 12, H: 12, Value: 1000}), 1000},
		{12, 12, kinds(cut.Kind{W: 1, H: 1, Value: 1000}), 144000},
		{12, 11, kinds(cut.Kind{W: 11, H: 12, Value: 1000}), 0}, // it is not turned
		{12, 12, slices.Repeat(kinds(cut.Kind{W: 12, H: 12, Value: 7}), 6), 7},
		{5, 5, kinds(cut.Kind{W: 3, H: 2, Value: 1}, cut.Kind{W: 2, H: 3, Value: 1}), 3}, // four of them would lie in a whirl, which cannot be cut
	} {
		if n, e := cut.Best(x.w, x.h, x.kinds); n != x.want || e != api.OK {
			t.Errorf("Best of %d by %d with %v: %d %d, want %d", x.w, x.h, x.kinds, n, e, x.want)
		}
	}
}

// most returns the best worth of all layouts that can be cut, and the smallest number of labels of one of this worth.
func most(layouts []cut.Layout, k []cut.Kind) (best, labels int) {
	values := map[[2]int]int{}
	for _, kind := range k {
		values[[2]int{kind.W, kind.H}] = max(values[[2]int{kind.W, kind.H}], kind.Value)
	}
	for _, l := range layouts {
		sum := 0
		for _, label := range l.Labels {
			if value, is := values[[2]int{label.W, label.H}]; is {
				sum += value
			} else {
				sum -= 1000000
			}
		}
		if sum > best || sum == best && len(l.Labels) < labels {
			best, labels = sum, len(l.Labels)
		}
	}
	return best, labels
}

// checkLay checks what Lay returns, if each layout of the best worth has at least so many labels.
func checkLay(t *testing.T, w, h int, k []cut.Kind, labels int) {
	t.Helper()
	l, e := cut.Lay(w, h, k)
	if labels > cut.MaxLabels {
		if e != api.ErrOver || l.W != 0 || l.H != 0 || len(l.Labels) > 0 {
			t.Fatalf("Lay of %d by %d with %v: %v %d, but it needs %d labels", w, h, k, l, e, labels)
		}
		return
	}
	if e != api.OK || cut.Check(l) != api.OK || l.W != w || l.H != h || len(l.Labels) < labels || !canBeCut(l) {
		t.Fatalf("Lay of %d by %d with %v: %v %d", w, h, k, l, e)
	}
	sum := 0
	for _, label := range l.Labels {
		value := -1
		for _, kind := range k {
			if kind.W == label.W && kind.H == label.H {
				value = max(value, kind.Value)
			}
		}
		if value < 0 {
			t.Fatalf("Lay of %d by %d with %v: %v", w, h, k, l)
		}
		sum += value
	}
	if n, f := cut.Worth(l, k); n != sum || f != api.OK || sum != best(t, w, h, k) {
		t.Fatalf("Lay of %d by %d with %v: %v, worth %d, Worth %d %d, Best %d", w, h, k, l, sum, n, f, best(t, w, h, k))
	}
}

// P6.4: by all layouts of a size that can be cut.
func TestBestOfAll(t *testing.T) {
	for _, size := range [][2]int{{1, 1}, {2, 1}, {1, 3}, {2, 2}, {3, 2}, {2, 3}, {3, 3}, {4, 2}, {2, 5}, {3, 4}, {11, 1}} {
		w, h := size[0], size[1]
		var all []cut.Layout
		visitLayouts(w, h, func(l cut.Layout) {
			if len(l.Labels) < 4 || canBeCut(l) {
				all = append(all, l)
			}
		})
		for number := range 12 {
			k := someKinds(1+number%6, 3, 10*w+h+100*number)
			want, labels := most(all, k)
			if n, e := cut.Best(w, h, k); n != want || e != api.OK {
				t.Fatalf("Best of %d by %d with %v: %d %d, want %d", w, h, k, n, e, want)
			}
			checkLay(t, w, h, k, labels)
		}
	}
}

// P6.4: by all ways to share a number of labels out.
func TestBestOfMore(t *testing.T) {
	seen := map[bool]int{}
	for w := 1; w <= cut.MaxSide; w++ {
		for h := 1; h <= cut.MaxSide; h++ {
			number := 12*w + h
			k := someKinds(1+number%6, 3+number%7, number)
			known := map[[3]int]int{}
			want, labels := best(t, w, h, k), 0
			for labels <= cut.MaxLabels && bestWith(w, h, labels, k, known) < want {
				labels++
			}
			if labels <= cut.MaxLabels && bestWith(w, h, cut.MaxLabels, k, known) != want {
				t.Fatalf("Best of %d by %d with %v: %d, but it could be %d", w, h, k, want, bestWith(w, h, cut.MaxLabels, k, known))
			}
			seen[labels > cut.MaxLabels]++
			checkLay(t, w, h, k, labels)
		}
	}
	if seen[true] < 10 || seen[false] < 10 {
		t.Errorf("%v", seen)
	}
}

// P6.4: of one kind, as many as fit side by side.
func TestBestOfOneKind(t *testing.T) {
	for w := 1; w <= cut.MaxSide; w++ {
		for h := 1; h <= cut.MaxSide; h++ {
			for a := 1; a <= cut.MaxSide; a++ {
				for b := 1; b <= cut.MaxSide; b++ {
					if n := best(t, w, h, kinds(cut.Kind{W: a, H: b, Value: 10*a + b})); n != (w/a)*(h/b)*(10*a+b) {
						t.Fatalf("Best of %d by %d with %d by %d: %d", w, h, a, b, n)
					}
				}
			}
		}
	}
}

// P6.4: of several ways, one with few labels is found; at 11 labels there is none.
func TestLayOfFew(t *testing.T) {
	one := func(w, h, value int) cut.Kind { return cut.Kind{W: w, H: h, Value: value} }
	for _, x := range []struct {
		w, h   int
		kinds  []cut.Kind
		labels int
	}{
		{10, 1, kinds(one(1, 1, 1)), 10},
		{11, 1, kinds(one(1, 1, 1)), 11},
		{1, 11, kinds(one(1, 1, 1)), 11},
		{11, 1, kinds(one(1, 1, 1), one(2, 1, 2)), 6}, // the same worth with fewer labels
		{12, 12, kinds(one(1, 1, 1), one(12, 12, 144)), 1},
		{12, 12, kinds(one(1, 1, 1), one(12, 12, 143)), 144},
		{12, 12, kinds(one(1, 1, 1), one(4, 4, 16), one(1, 12, 12)), 9},
		{12, 12, kinds(one(1, 1, 0)), 0}, // what is worth nothing can be thrown away
		{12, 12, kinds(one(12, 12, 0), one(5, 5, 3), one(1, 1, 0)), 4},
		{3, 3, kinds(one(4, 4, 9)), 0},
	} {
		checkLay(t, x.w, x.h, x.kinds, x.labels)
	}
}

// P6.5.
func TestWorth(t *testing.T) {
	l := drawn("AAB", "AAC", "DDD")
	small, long, square := cut.Kind{W: 1, H: 1, Value: 2}, cut.Kind{W: 3, H: 1, Value: 1000}, cut.Kind{W: 2, H: 2, Value: 7}
	for _, x := range []struct {
		layout cut.Layout
		kinds  []cut.Kind
		want   int
		e      api.Errno
	}{
		{l, kinds(small, long, square), 1011, api.OK},
		{l, kinds(square, small, long, cut.Kind{W: 1, H: 1, Value: 3}), 1013, api.OK}, // the greatest Value of this size
		{l, kinds(cut.Kind{W: 1, H: 1, Value: 3}, square, long, small), 1013, api.OK},
		{l, kinds(square, long), 0, api.ErrProof},
		{l, kinds(square, small, cut.Kind{W: 1, H: 3, Value: 1000}), 0, api.ErrProof}, // it is not turned
		{l, kinds(square, cut.Kind{W: 1, H: 1}, cut.Kind{W: 3, H: 1}), 7, api.OK},     // worth nothing is a worth
		{sheet(3, 3), kinds(small), 0, api.OK},
		{sheet(12, 12, 0, 0, 12, 12), kinds(cut.Kind{W: 12, H: 12, Value: 1000}), 1000, api.OK},
		{drawn("AAB", "C.B", "CDD"), kinds(cut.Kind{W: 2, H: 1, Value: 1}, cut.Kind{W: 1, H: 2, Value: 10}), 22, api.OK}, // it need not be possible to cut it
		{drawn("ABCDEFGHIJ"), kinds(small), 20, api.OK},
		{l, nil, 0, api.ErrEmpty},
		{l, slices.Repeat(kinds(small), 7), 0, api.ErrMany},
		{l, kinds(small, cut.Kind{W: 13, H: 1}), 0, api.ErrSize}, // before a label without a kind
	} {
		if n, e := cut.Worth(x.layout, x.kinds); n != x.want || e != x.e {
			t.Errorf("Worth of %v with %v: %d %d, want %d %d", x.layout, x.kinds, n, e, x.want, x.e)
		}
	}
}
