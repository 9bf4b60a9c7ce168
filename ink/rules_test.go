package ink_test

import (
	"math"
	"reflect"
	"slices"
	"testing"

	"tusche/api"
	"tusche/ink"
)

// question is arguments for all functions.
type question struct {
	palette                  ink.Palette
	sequence, stones, sketch []int
	choice                   []bool
	colour                   int
}

// answer is everything that the functions return for a question.
type answer struct {
	colour, stones, count       int
	gives, spare, ever          []int
	fewest, order               []int
	choice                      []bool
	check, excludes, serves     api.Errno
	ofColour, ofGives, ofChoose api.Errno
	ofSpare, ofEver, ofStones   api.Errno
	ofFewest, ofOrder           api.Errno
}

func ask(q question) answer {
	var a answer
	a.check = ink.Check(q.palette)
	a.colour, a.ofColour = ink.Colour(q.palette, q.sequence, q.choice)
	a.gives, a.ofGives = ink.Gives(q.palette, q.sequence)
	a.choice, a.ofChoose = ink.Choose(q.palette, q.sequence, q.colour)
	a.spare, a.ofSpare = ink.Spare(q.palette, q.sequence)
	a.ever, a.ofEver = ink.Ever(q.palette)
	a.excludes = ink.Excludes(q.palette, q.sketch, q.colour)
	a.stones, a.ofStones = ink.Stones(q.palette, q.colour)
	a.fewest, a.ofFewest = ink.Fewest(q.palette, q.sketch)
	a.serves = ink.Serves(q.palette, q.sketch, q.sequence)
	a.order, a.count, a.ofOrder = ink.Order(q.palette, q.stones)
	return a
}

// errors returns the errors of an answer, in the order of the chapter's functions.
func (a answer) errors() []api.Errno {
	return []api.Errno{a.check, a.ofColour, a.ofGives, a.ofChoose, a.ofSpare, a.ofEver, a.excludes, a.ofStones, a.ofFewest, a.serves, a.ofOrder}
}

// numbers returns the lists of numbers of an answer.
func (a answer) numbers() [][]int {
	return [][]int{a.gives, a.spare, a.ever, a.fewest, a.order}
}

func (a answer) equal(b answer) bool {
	return a.colour == b.colour && a.stones == b.stones && a.count == b.count && slices.Equal(a.choice, b.choice) &&
		slices.Equal(a.errors(), b.errors()) && slices.EqualFunc(a.numbers(), b.numbers(), slices.Equal[[]int])
}

// checkNothing checks that nothing comes with an error (R2).
func (a answer) checkNothing(t *testing.T, q question) {
	t.Helper()
	if a.ofColour != api.OK && a.colour != 0 || a.ofGives != api.OK && len(a.gives) > 0 || a.ofChoose != api.OK && len(a.choice) > 0 ||
		a.ofSpare != api.OK && len(a.spare) > 0 || a.ofEver != api.OK && len(a.ever) > 0 || a.ofStones != api.OK && a.stones != 0 ||
		a.ofFewest != api.OK && len(a.fewest) > 0 || a.ofOrder != api.OK && (len(a.order) > 0 || a.count != 0) {
		t.Errorf("%v: %v", q, a)
	}
}

// someLists are lists that are right for some arguments, and wrong for others.
func someLists() [][]int {
	return [][]int{nil, list(0), list(1), list(-1), list(0, 1, 2), list(2, 1, 0), list(1, 1, 1), list(0, 1, 2, 3, 4, 5, 6), list(7, 8), list(math.MinInt, math.MaxInt), make([]int, 12), make([]int, 13), make([]int, 5000)}
}

// P1, R1, R2: whatever comes, each function ends, the error of Check comes first, and nothing comes with an error.
func TestWhateverComes(t *testing.T) {
	all := bigPalettes()
	for _, x := range badPalettes() {
		all = append(all, x.palette)
	}
	for _, p := range all {
		for _, l := range someLists() {
			for _, choice := range [][]bool{nil, yes(true), make([]bool, len(l))} {
				for _, colour := range list(0, 1, 6, 7, -1, math.MinInt, math.MaxInt) {
					q := question{palette: p, sequence: l, stones: l, sketch: l, choice: choice, colour: colour}
					a := ask(q)
					a.checkNothing(t, q)
					if a.check != api.OK && !slices.Equal(a.errors(), slices.Repeat([]api.Errno{a.check}, 11)) {
						t.Errorf("%v: %v", q, a.errors())
					}
				}
			}
		}
	}
}

// R3: a nil list and one without elements are the same.
func TestNoList(t *testing.T) {
	for _, p := range []ink.Palette{exampleP(), without2(), chain(3)} {
		for colour := range p.Colours {
			a := ask(question{palette: p, colour: colour})
			b := ask(question{palette: p, colour: colour, sequence: list(), stones: list(), sketch: list(), choice: yes()})
			if !a.equal(b) {
				t.Errorf("%v: %v and %v", p, a, b)
			}
		}
	}
	for _, colours := range list(1, 2) {
		a, b := ask(question{palette: ink.Palette{Colours: colours}}), ask(question{palette: ink.Palette{Colours: colours, Inks: [][]int{}}})
		if !a.equal(b) {
			t.Errorf("no inks: %v and %v", a, b)
		}
	}
	if a, b := ink.Check(palette(2, nil)), ink.Check(ink.Palette{Colours: 2, Inks: [][]int{{}}}); a != b {
		t.Errorf("an ink without colours: %d and %d", a, b)
	}
}

// cut returns a question about a palette whose lists have a size, and the same question with whole lists, which share their memory: they go on behind the ends of the former ones.
func cut(p ink.Palette, size int) (q, whole question) {
	whole = question{sequence: list(2, 0, 1, 2, 0, 1), stones: list(2, 1, 0, 1, 2, 0), sketch: list(0, 1, 2, 3, 4, 5), choice: yes(true, false, true, true, false, true)}
	whole.palette = palette(p.Colours, p.Inks...)
	for i := range whole.sequence {
		whole.sequence[i] %= len(p.Inks)
		whole.stones[i] %= len(p.Inks)
	}
	q = whole
	q.sequence, q.stones, q.choice = q.sequence[:size], q.stones[:size], q.choice[:size]
	q.sketch = q.sketch[min(size, 2):min(size, p.Colours)]
	q.colour = size % p.Colours
	return q, whole
}

// somePalettes are palettes of many kinds.
func somePalettes() []ink.Palette {
	return append(bigPalettes()[:14], mixed(6, 6, 1), mixed(7, 5, 2), mixed(5, 4, 3))
}

// R4, R8: arguments are not changed, also behind their ends, and equal arguments give equal results.
func TestArguments(t *testing.T) {
	for _, p := range somePalettes() {
		for size := range 7 {
			q, whole := cut(p, size)
			a := ask(q)
			other, kept := cut(p, size)
			if !reflect.DeepEqual(whole, kept) {
				t.Errorf("%v became %v", kept, whole)
			}
			for range 3 {
				if b := ask(other); !a.equal(b) {
					t.Errorf("%v: %v and %v", kept, a, b)
				}
			}
		}
	}
}

// R4: results are memory of their own.
func TestResultsAreNew(t *testing.T) {
	for _, p := range somePalettes() {
		for size := range 7 {
			q, whole := cut(p, size)
			other, kept := cut(p, size)
			a, want := ask(q), ask(other)
			for i, l := range a.numbers() {
				for j := range l[:cap(l)] {
					l[:cap(l)][j] = -9 - i
				}
			}
			for i := range a.choice[:cap(a.choice)] {
				a.choice[:cap(a.choice)][i] = true
			}
			for i, l := range a.numbers() {
				if !slices.Equal(l, slices.Repeat(list(-9-i), len(l))) {
					t.Fatalf("%v: two results share memory: %v", kept, a)
				}
			}
			if b := ask(q); !reflect.DeepEqual(whole, kept) || !b.equal(want) {
				t.Fatalf("%v: what is done to results changes %v to %v", kept, want, b)
			}
		}
	}
}
