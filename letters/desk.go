package letters

import (
	"maps"
	"slices"
)

// desk is where the letters of a log are opened, in any order that means the same.
type desk struct {
	bonds  bonds
	log    string
	closed map[int]int // the letters that are still to be opened, with their kinds
}

// newDesk returns a desk with a log, no letter of which is opened.
func newDesk(o Office, log string) *desk {
	d := &desk{bonds: bondsOf(o), closed: map[int]int{}}
	d.put(log)
	return d
}

// put puts all letters of a log on the desk, in place of what is there.
func (d *desk) put(log string) {
	d.log = log
	clear(d.closed)
	for letter := range len(log) {
		d.closed[letter] = kindOf(log[letter])
	}
}

// ready returns the letters that can be opened now, in the order of the log: those that are bound to no earlier one that is still to be opened.
func (d *desk) ready() []int {
	var ready []int
	waiting := 0 // the kinds that are bound to a letter so far
	for _, letter := range slices.Sorted(maps.Keys(d.closed)) {
		kind := d.closed[letter]
		if waiting>>kind&1 == 0 {
			ready = append(ready, letter)
		}
		waiting |= d.bonds[kind]
	}
	return ready
}

// open opens letters, which must be ready, and returns their names.
func (d *desk) open(letters []int) []byte {
	var opened []byte
	for _, letter := range letters {
		delete(d.closed, letter)
		opened = append(opened, d.log[letter])
	}
	return opened
}

// openLog opens letters with the names of a log, one after the other, and reports whether it can open all.
func (d *desk) openLog(log string) bool {
	for _, name := range []byte(log) {
		ready := d.ready()
		i := slices.IndexFunc(ready, func(letter int) bool { return d.log[letter] == name })
		if i < 0 {
			return false
		}
		d.open(ready[i : i+1])
	}
	return true
}

// openRest opens all letters that are still to be opened, always one with the smallest name, and returns their names: no other order of them is smaller.
func (d *desk) openRest() string {
	var rest []byte
	for len(d.closed) > 0 {
		ready := d.ready()
		next := slices.MinFunc(ready, func(one, other int) int { return d.closed[one] - d.closed[other] })
		rest = append(rest, d.open([]int{next})...)
	}
	return string(rest)
}

// openWithout opens all letters that can be opened while one of them is not.
func (d *desk) openWithout(kept int) {
	for {
		others := slices.DeleteFunc(d.ready(), func(letter int) bool { return letter == kept })
		if len(others) == 0 {
			return
		}
		d.open(others)
	}
}

// orders returns in how many orders the letters that are still to be opened can be opened. What it finds, it writes down by the set of these letters.
func (d *desk) orders(found map[int]int) int {
	if len(d.closed) == 0 {
		return 1
	}
	set := d.set()
	if known, is := found[set]; is {
		return known
	}
	total := 0
	for _, letter := range d.ready() {
		kind := d.closed[letter]
		delete(d.closed, letter)
		further := d.orders(found)
		d.closed[letter] = kind
		total += further
	}
	found[set] = total
	return total
}

// set returns the set of the letters that are still to be opened, with a bit for each of them.
func (d *desk) set() int {
	set := 0
	for letter := range d.closed {
		set |= 1 << letter
	}
	return set
}
