package ink_test

import (
	"slices"
	"testing"

	"tusche/api"
	"tusche/ink"
)

// shortest returns what Fewest returns, and whether the sketch can be served.
func shortest(t *testing.T, p ink.Palette, sketch []int) ([]int, bool) {
	t.Helper()
	sequence, e := ink.Fewest(p, sketch)
	if e != api.OK && e != api.ErrLost {
		t.Fatalf("Fewest of %v: %v: %d", p, sketch, e)
	}
	return sequence, e == api.OK
}

// P3.9: each stone of Fewest adds a colour.
func TestFewestAdds(t *testing.T) {
	for _, p := range palettes() {
		for _, sketch := range listsOf(p.Colours) {
			sequence, is := shortest(t, p, sketch)
			if !is {
				continue
			}
			if len(sequence) > p.Colours-1 {
				t.Fatalf("Fewest of %v: %v: %v", p, sketch, sequence)
			}
			for i := range sequence {
				if len(gives(t, p, sequence[:i+1])) <= len(gives(t, p, sequence[:i])) {
					t.Fatalf("Fewest of %v: %v: %v, whose stone %d adds nothing", p, sketch, sequence, i)
				}
			}
			if e := ink.Serves(p, sketch, sequence); e != api.OK {
				t.Fatalf("Serves of %v: %v, %v: %d", p, sketch, sequence, e)
			}
			if l, e := ink.Spare(p, sequence); e != api.OK || len(sequence) > 0 && slices.Contains(l, len(sequence)-1) {
				t.Fatalf("Spare of %v: %v: %v %d", p, sequence, l, e)
			}
		}
	}
}

// P3.6: Stones returns how many stones Fewest needs for a sketch of one colour.
func TestFewestStones(t *testing.T) {
	for _, p := range palettes() {
		for colour := range p.Colours {
			n, e := ink.Stones(p, colour)
			l, f := ink.Fewest(p, list(colour))
			if n != len(l) || e != f {
				t.Fatalf("Stones of %v: %d: %d %d, Fewest: %v %d", p, colour, n, e, l, f)
			}
		}
	}
}

// P3.9.
func TestDoubles(t *testing.T) {
	for _, p := range palettes() {
		for _, sequence := range listsUpTo(len(p.Inks), 3) {
			before := gives(t, p, sequence)
			for stone := range p.Inks {
				if after := gives(t, p, append(slices.Clone(sequence), stone)); len(after) > 2*len(before) {
					t.Fatalf("%v: %v gives %v, with %d %v", p, sequence, before, stone, after)
				}
			}
		}
	}
}

// P3.10: for each colour, a sequence or a closed list, and not both.
func TestNever(t *testing.T) {
	for _, p := range palettes() {
		is := ever(t, p)
		if !isClosed(p, is) {
			t.Fatalf("Ever of %v: %v, which is not closed", p, is)
		}
		for colour := range p.Colours {
			sequence, can := shortest(t, p, list(colour))
			if can && !slices.Contains(gives(t, p, sequence), colour) {
				t.Fatalf("%v: %v does not give %d", p, sequence, colour)
			}
			if e := ink.Excludes(p, is, colour); (e == api.OK) == can {
				t.Fatalf("%v: %d is given: %v, Excludes of Ever: %d", p, colour, can, e)
			}
			for _, l := range listsOf(p.Colours) {
				if can && ink.Excludes(p, l, colour) == api.OK {
					t.Fatalf("%v: %d is given, but excluded by %v", p, colour, l)
				}
			}
		}
	}
}

// P3.11: a stone more.
func TestMoreStones(t *testing.T) {
	for _, p := range palettes() {
		for _, sequence := range listsUpTo(len(p.Inks), 2) {
			checkMore(t, p, sequence)
		}
	}
	for _, p := range bigPalettes()[:24] {
		for _, sequence := range sequencesOf(p) {
			if len(sequence) < ink.MaxStones {
				checkMore(t, p, sequence)
			}
		}
	}
}

// checkMore checks that a stone more does not take a colour from a sequence, and that no area needs more stones for one.
func checkMore(t *testing.T, p ink.Palette, sequence []int) {
	t.Helper()
	before := gives(t, p, sequence)
	for at := range len(sequence) + 1 {
		for stone := range p.Inks {
			longer := slices.Insert(slices.Clone(sequence), at, stone)
			if after := gives(t, p, longer); !contains(after, before) {
				t.Fatalf("%v: %v gives %v, but %v gives %v", p, sequence, before, longer, after)
			}
			for _, colour := range before {
				fewer, e := ink.Choose(p, longer, colour)
				more, f := ink.Choose(p, sequence, colour)
				if e != api.OK || f != api.OK || taken(fewer) > taken(more) {
					t.Fatalf("%v: Choose of %v, %d: %v %d, of %v: %v %d", p, longer, colour, fewer, e, sequence, more, f)
				}
			}
		}
	}
}

// P3.11: an ink more.
func TestMoreInks(t *testing.T) {
	for _, p := range palettes() {
		if len(p.Inks) == ink.MaxInks {
			continue
		}
		for _, makes := range [][]int{slices.Repeat(list(p.Colours-1), p.Colours), list(1, 0, 1, 2, 5, 4, 3)[:p.Colours]} {
			for colour := range makes {
				makes[colour] %= p.Colours
			}
			more := palette(p.Colours, append(slices.Clone(p.Inks), makes)...)
			if !contains(ever(t, more), ever(t, p)) {
				t.Fatalf("Ever of %v: %v, of %v: %v", p, ever(t, p), more, ever(t, more))
			}
			for _, sketch := range listsOf(p.Colours) {
				long, is := shortest(t, p, sketch)
				short, still := shortest(t, more, sketch)
				if is && !still || is && len(short) > len(long) {
					t.Fatalf("Fewest of %v: %v: %v, of %v: %v", p, sketch, long, more, short)
				}
			}
		}
	}
}

// P3.12.
func TestOpaque(t *testing.T) {
	for _, p := range palettes() {
		for number, makes := range p.Inks {
			if len(slices.Compact(slices.Clone(makes))) > 1 {
				continue
			}
			for _, sequence := range listsUpTo(len(p.Inks), 3) {
				want := append(gives(t, p, sequence), makes[0])
				slices.Sort(want)
				if l := gives(t, p, append(slices.Clone(sequence), number)); !slices.Equal(l, slices.Compact(want)) {
					t.Fatalf("%v: %v and the opaque ink %d give %v", p, sequence, number, l)
				}
			}
		}
	}
}

// follow returns the colours of all choices for stones, over each of some colours.
func follow(p ink.Palette, colours, stones []int) []int {
	var after []int
	for _, colour := range colours {
		for _, choice := range choicesOf(len(stones)) {
			over := colour
			for i, is := range choice {
				if is {
					over = p.Inks[stones[i]][over]
				}
			}
			after = append(after, over)
		}
	}
	slices.Sort(after)
	return slices.Compact(after)
}

// P3.13: what the first stones give, and the others, decide.
func TestOneAfterTheOther(t *testing.T) {
	for _, p := range bigPalettes()[:40] {
		for _, sequence := range sequencesOf(p) {
			if len(sequence) > 7 {
				continue
			}
			for cut := range len(sequence) + 1 {
				if l := follow(p, gives(t, p, sequence[:cut]), sequence[cut:]); !slices.Equal(l, gives(t, p, sequence)) {
					t.Fatalf("%v: %v gives %v, but %v after its first %d stones", p, sequence, gives(t, p, sequence), l, cut)
				}
			}
		}
	}
}

// less returns what is in a list, and not in another one.
func less(l, without []int) []int {
	return slices.DeleteFunc(slices.Clone(l), func(n int) bool { return slices.Contains(without, n) })
}

// P3.13: a stone that is printed twice running.
func TestTwice(t *testing.T) {
	for _, p := range palettes() {
		for _, sequence := range listsUpTo(len(p.Inks), 2) {
			for stone, makes := range p.Inks {
				before := gives(t, p, sequence)
				once := gives(t, p, append(slices.Clone(sequence), stone))
				twice := gives(t, p, append(slices.Clone(sequence), stone, stone))
				var can []int
				for _, colour := range less(once, before) {
					can = append(can, makes[colour])
				}
				if added := less(twice, once); !contains(can, added) {
					t.Fatalf("%v: %v gives %v, with %d %v, with it twice %v", p, sequence, before, stone, once, twice)
				}
			}
		}
	}
}

// names returns lists of other names for colours: the paper keeps its own.
func names(colours int) [][]int {
	turned, shifted := list(0), list(0)
	for colour := 1; colour < colours; colour++ {
		turned = append(turned, colours-colour)
		shifted = append(shifted, colour%(colours-1)+1)
	}
	return [][]int{turned, shifted}
}

// renamed returns the new names of colours, in ascending order.
func renamed(colours, names []int) []int {
	var other []int
	for _, colour := range colours {
		other = append(other, names[colour])
	}
	slices.Sort(other)
	return other
}

// recoloured returns a palette with other names for its colours.
func recoloured(p ink.Palette, names []int) ink.Palette {
	other := palette(p.Colours, p.Inks...)
	for i, makes := range p.Inks {
		for colour, made := range makes {
			other.Inks[i][names[colour]] = names[made]
		}
	}
	return other
}

// P3.14: other names for colours.
func TestColoursRenamed(t *testing.T) {
	for _, p := range palettes() {
		for _, names := range names(p.Colours) {
			other := recoloured(p, names)
			if l := ever(t, other); !slices.Equal(l, renamed(ever(t, p), names)) {
				t.Fatalf("Ever of %v: %v, of %v: %v", p, ever(t, p), other, l)
			}
			for _, sequence := range listsUpTo(len(p.Inks), 2) {
				checkRecoloured(t, p, other, names, sequence)
			}
			for _, sketch := range listsOf(p.Colours) {
				a, is := shortest(t, p, sketch)
				if b, still := shortest(t, other, renamed(sketch, names)); is != still || !slices.Equal(a, b) {
					t.Fatalf("Fewest of %v: %v: %v, of %v: %v", p, sketch, a, other, b)
				}
			}
		}
	}
}

// checkRecoloured checks what a sequence gives before and after its colours are renamed.
func checkRecoloured(t *testing.T, p, other ink.Palette, names, sequence []int) {
	t.Helper()
	if l := gives(t, other, sequence); !slices.Equal(l, renamed(gives(t, p, sequence), names)) {
		t.Fatalf("Gives of %v: %v: %v, of %v: %v", p, sequence, gives(t, p, sequence), other, l)
	}
	a, e := ink.Spare(p, sequence)
	b, f := ink.Spare(other, sequence)
	if e != api.OK || f != api.OK || !slices.Equal(a, b) {
		t.Fatalf("Spare of %v: %v: %v %d, of %v: %v %d", p, sequence, a, e, other, b, f)
	}
	c, n, e := ink.Order(p, sequence)
	d, m, f := ink.Order(other, sequence)
	if e != api.OK || f != api.OK || n != m || !slices.Equal(c, d) {
		t.Fatalf("Order of %v: %v: %v %d %d, of %v: %v %d %d", p, sequence, c, n, e, other, d, m, f)
	}
}

// P3.14: other names for inks, which are turned around.
func TestInksRenamed(t *testing.T) {
	for _, p := range palettes() {
		other := palette(p.Colours, p.Inks...)
		slices.Reverse(other.Inks)
		rename := func(sequence []int) []int {
			var l []int
			for _, number := range sequence {
				l = append(l, len(p.Inks)-1-number)
			}
			return l
		}
		if !slices.Equal(ever(t, other), ever(t, p)) {
			t.Fatalf("Ever of %v: %v, of %v: %v", p, ever(t, p), other, ever(t, other))
		}
		for _, sequence := range listsUpTo(len(p.Inks), 2) {
			if a, b := gives(t, p, sequence), gives(t, other, rename(sequence)); !slices.Equal(a, b) {
				t.Fatalf("Gives of %v: %v: %v, of %v: %v", p, sequence, a, other, b)
			}
			_, n, e := ink.Order(p, sequence)
			_, m, f := ink.Order(other, rename(sequence))
			if e != api.OK || f != api.OK || n != m {
				t.Fatalf("Order of %v: %v: %d %d, of %v: %d %d", p, sequence, n, e, other, m, f)
			}
		}
		for _, sketch := range listsOf(p.Colours) {
			a, is := shortest(t, p, sketch)
			b, still := shortest(t, other, sketch)
			if is != still || len(a) != len(b) || is && ink.Serves(p, sketch, rename(b)) != api.OK {
				t.Fatalf("Fewest of %v: %v: %v, of %v: %v", p, sketch, a, other, b)
			}
		}
	}
}

// M2, M4: the order of Order gives as many colours as it says, and no fewer than the stones as they came.
func TestOrderGives(t *testing.T) {
	for _, p := range palettes() {
		for _, stones := range listsUpTo(len(p.Inks), 3) {
			order, n, e := ink.Order(p, stones)
			if e != api.OK || len(gives(t, p, order)) != n || n < len(gives(t, p, stones)) {
				t.Fatalf("Order of %v: %v: %v %d %d", p, stones, order, n, e)
			}
		}
	}
}
