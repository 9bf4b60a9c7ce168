package repeat_test

import (
	"slices"
	"strings"
	"testing"

	"tusche/api"
	"tusche/repeat"
)

func list(l ...int) []int { return l }

func rows(l ...string) []string { return l }

// chance returns a function whose numbers follow from one number, and from no rule otherwise.
func chance(number int) func(limit int) int {
	state := uint32(number)
	return func(limit int) int {
		state = state*1664525 + 1013904223
		return int(state>>16) % limit
	}
}

// every returns all borders with n figures of so many kinds, in ascending order.
func every(n, kinds int) []string {
	all := rows("")
	for range n {
		var longer []string
		for _, border := range all {
			for kind := range kinds {
				longer = append(longer, border+string(rune('a'+kind)))
			}
		}
		all = longer
	}
	return all
}

// upTo returns all borders with at most n figures of so many kinds.
func upTo(n, kinds int) []string {
	var all []string
	for size := range n {
		all = append(all, every(size+1, kinds)...)
	}
	return all
}

// smallBorders returns all borders of some small sizes.
func smallBorders() []string {
	all := slices.Concat(upTo(10, 2), upTo(6, 3), upTo(4, 5), rows("z", "zy", "yzz", "zzzz"))
	slices.Sort(all)
	return slices.Compact(all)
}

// repeated returns the first n figures of copies of a border.
func repeated(border string, n int) string {
	return strings.Repeat(border, n)[:n]
}

// mixed returns a border with any figures.
func mixed(n, kinds, number int) string {
	next := chance(number)
	border := make([]byte, n)
	for i := range border {
		border[i] = 'a' + byte(next(kinds))
	}
	return string(border)
}

// bigBorders returns borders of all sizes, up to the greatest one: some that repeat in one way, some in two, and others.
func bigBorders() []string {
	all := rows("abcdefghijklmnopqrstuvwx", "cdefghijklmnopqrstuvwxyz", "zyxwvutsrqponmlkjihgfedc", "abaababaabaababaababaaba", "abacabadabacabaabacabada", "abaabaababaabaababaabaab")
	for n := 1; n <= repeat.MaxLength; n++ {
		all = append(all, strings.Repeat("q", n), strings.Repeat("b", n-1)+"a", mixed(n, 2, n), mixed(n, 26, 3*n), wideOf(1+n/3, 1+n/2, n))
		for size := 1; size <= n; size++ {
			root := mixed(size, 1+size%3, 7*n+size)
			all = append(all, repeated(root, n), doubled(root, n))
		}
	}
	return all
}

// doubled returns a border that copies of a piece cover, each of which may begin before the last one ends.
func doubled(piece string, n int) string {
	row := piece
	for number := 0; len(row) < n; number++ {
		overlap := number % len(piece)
		for !strings.HasSuffix(row, piece[:overlap]) {
			overlap--
		}
		row += piece[overlap:]
	}
	return row[len(row)-n:]
}

// borders returns borders of all sizes.
func borders() []string {
	return slices.Concat(smallBorders(), bigBorders())
}

// isPeriod is the chapter's definition.
func isPeriod(border string, p int) bool {
	for i := range len(border) - p {
		if border[i] != border[i+p] {
			return false
		}
	}
	return true
}

// periodsOf is the chapter's definition.
func periodsOf(border string) []int {
	var all []int
	for p := 1; p <= len(border); p++ {
		if isPeriod(border, p) {
			all = append(all, p)
		}
	}
	return all
}

// rootOf is the chapter's definition.
func rootOf(border string) (string, int) {
	for n := 1; ; n++ {
		if exponent := len(border) / n; strings.Repeat(border[:n], exponent) == border {
			return border[:n], exponent
		}
	}
}

// coversOf is the chapter's definition.
func coversOf(border string) []int {
	var all []int
	for k := 1; k <= len(border); k++ {
		figures := 0
		for at := range len(border) {
			if liesIn(border, at, k) {
				figures++
			}
		}
		if figures == len(border) {
			all = append(all, k)
		}
	}
	return all
}

// liesIn reports whether a figure lies in a piece of a border that is equal to its first k figures.
func liesIn(border string, at, k int) bool {
	for from := range len(border) - k + 1 {
		if from <= at && at < from+k && border[from:from+k] == border[:k] {
			return true
		}
	}
	return false
}

// turns returns all borders of the ring of a border.
func turns(border string) []string {
	var all []string
	for i := range len(border) {
		all = append(all, border[i:]+border[:i])
	}
	slices.Sort(all)
	return slices.Compact(all)
}

// divisor returns the greatest common divisor, as the greatest one of the common ones.
func divisor(a, b int) int {
	n := min(a, b)
	for a%n > 0 || b%n > 0 {
		n--
	}
	return n
}

// turned returns a border from its last figure to its first one.
func turned(border string) string {
	figures := []byte(border)
	slices.Reverse(figures)
	return string(figures)
}

// exchanged returns a border with other figures, different for different ones: each is a number of letters later, or, for a negative number, before the end as it was behind the beginning.
func exchanged(border string, by int) string {
	figures := []byte(border)
	for i, figure := range figures {
		number := int(figure - 'a')
		if by < 0 {
			number = 25 - number
		}
		figures[i] = 'a' + byte((number+max(by, -by))%26)
	}
	return string(figures)
}

// figuresOf returns the different figures of a border, in the order in which they occur first.
func figuresOf(border string) string {
	figures := ""
	for i := range len(border) {
		if !strings.Contains(figures, border[i:i+1]) {
			figures += border[i : i+1]
		}
	}
	return figures
}

// alphabet returns the first figures.
func alphabet(n int) string {
	return "abcdefghijklmnopqrstuvwxyz"[:n]
}

// named returns all borders with n figures in which figures are named in the order in which they occur first.
func named(n int) []string {
	all := rows("")
	for range n {
		var longer []string
		for _, border := range all {
			for _, figure := range []byte(alphabet(len(figuresOf(border)) + 1)) {
				longer = append(longer, border+string(figure))
			}
		}
		all = longer
	}
	return all
}

// wideOf returns a wide border as the chapter's properties describe it: figures are equal just if they are linked by steps of p and q.
func wideOf(p, q, n int) string {
	names := []byte(strings.Repeat("?", n))
	var reach func(at int, name byte)
	reach = func(at int, name byte) {
		if at < 0 || at >= n || names[at] != '?' {
			return
		}
		names[at] = name
		for _, step := range list(p, -p, q, -q) {
			reach(at+step, name)
		}
	}
	name := byte('a')
	for at := range n {
		if names[at] == '?' {
			reach(at, name)
			name++
		}
	}
	return string(names)
}

// linked returns the border with n figures of as many kinds as possible that has some periods. Each set of periods that a border of n figures has is that of such a border.
func linked(periods []int, n int) string {
	border := []byte("abcdefghijklmnopqrstuvwxyz"[:n])
	for _, p := range periods {
		for i := range n - p {
			a, b := border[i], border[i+p]
			for j, figure := range border {
				if figure == a || figure == b {
					border[j] = min(a, b)
				}
			}
		}
	}
	return string(border)
}

// linkedBorders returns a border with n figures for each set of periods that such borders have.
func linkedBorders(n int) []string {
	seen := map[string]bool{}
	var all []string
	for set := range 1 << (n - 1) {
		var periods []int
		for p := 1; p < n; p++ {
			if set>>(p-1)&1 > 0 {
				periods = append(periods, p)
			}
		}
		if border := linked(periods, n); !seen[border] {
			seen[border] = true
			all = append(all, border)
		}
	}
	return all
}

// reached is a row of which only what matters for longer ones is known: which borders it contains, and its last figures.
type reached struct {
	contains int
	last     string
}

// joinOf finds the smallest of the shortest joint rows by going through all rows, by length and then by bytes. Of the rows that can go on in the same way, only the first one goes on.
func joinOf(borders []string) string {
	letters := figuresOf(strings.Join(borders, ""))
	figures := []byte(letters)
	slices.Sort(figures)
	seen := map[reached]bool{}
	queue := rows("")
	for {
		row := queue[0]
		queue = queue[1:]
		for _, figure := range figures {
			longer := row + string(figure)
			state := reachedBy(longer, borders)
			if state.contains == 1<<len(borders)-1 {
				return longer
			}
			if !seen[state] {
				seen[state] = true
				queue = append(queue, longer)
			}
		}
	}
}

func reachedBy(row string, borders []string) reached {
	var state reached
	for i, border := range borders {
		if strings.Contains(row, border) {
			state.contains |= 1 << i
		}
		for n := range len(border) {
			if n > len(state.last) && strings.HasSuffix(row, border[:n]) {
				state.last = border[:n]
			}
		}
	}
	return state
}

// joins returns lists of borders that can be joined.
func joins() [][]string {
	all := [][]string{rows("a"), rows("z", "z"), rows("abcdefgh"), rows("ab", "ba"), rows("abab", "baba", "ab"), rows("aab", "abb", "bba"), rows("aaaaaaaa", "aaa", "a", "aaaa"),
		rows("abcdefgh", "hgfedcba", "ijklmnop", "ponmlkji", "qrstuvwx"), rows("abcdefgh", "bcdefghi", "cdefghij", "defghijk", "efghijkl"), rows("efghijkl", "cdefghij", "abcdefgh", "defghijk", "bcdefghi"),
		rows("abcde", "cdefg", "bcd"), rows("ab", "cd", "bc", "da", "ac"), rows("zz", "yy", "xx", "ww", "vv"), rows("ba", "ab", "bb", "aa"), rows("abaab", "aabab", "babaa")}
	for number := range 400 {
		next := chance(number)
		kinds := 2 + next(1+number%4)
		var l []string
		for range 1 + next(repeat.MaxJoined) {
			l = append(l, mixed(1+next(repeat.MaxPart), kinds, next(30000)))
		}
		all = append(all, l)
	}
	return all
}

func periods(t *testing.T, border string) []int {
	t.Helper()
	l, e := repeat.Periods(border)
	if e != api.OK {
		t.Fatalf("Periods of %s: %d", border, e)
	}
	return l
}

func root(t *testing.T, border string) (string, int) {
	t.Helper()
	s, n, e := repeat.Root(border)
	if e != api.OK {
		t.Fatalf("Root of %s: %d", border, e)
	}
	return s, n
}

func covers(t *testing.T, border string) []int {
	t.Helper()
	l, e := repeat.Covers(border)
	if e != api.OK {
		t.Fatalf("Covers of %s: %d", border, e)
	}
	return l
}

func wide(t *testing.T, p, q, n int) string {
	t.Helper()
	s, e := repeat.Wide(p, q, n)
	if e != api.OK {
		t.Fatalf("Wide of %d, %d, %d: %d", p, q, n, e)
	}
	return s
}

func plain(t *testing.T, border string) string {
	t.Helper()
	s, e := repeat.Plain(border)
	if e != api.OK {
		t.Fatalf("Plain of %s: %d", border, e)
	}
	return s
}

func first(t *testing.T, border string) string {
	t.Helper()
	s, e := repeat.First(border)
	if e != api.OK {
		t.Fatalf("First of %s: %d", border, e)
	}
	return s
}

func same(t *testing.T, a, b string) bool {
	t.Helper()
	is, e := repeat.Same(a, b)
	if e != api.OK {
		t.Fatalf("Same of %s and %s: %d", a, b, e)
	}
	return is
}

func rings(t *testing.T, n, kinds int) int {
	t.Helper()
	number, e := repeat.Rings(n, kinds)
	if e != api.OK {
		t.Fatalf("Rings of %d, %d: %d", n, kinds, e)
	}
	return number
}

func join(t *testing.T, borders []string) string {
	t.Helper()
	s, e := repeat.Join(borders)
	if e != api.OK {
		t.Fatalf("Join of %v: %d", borders, e)
	}
	return s
}
