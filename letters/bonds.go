package letters

// bonds is, for each kind, the set of the kinds that are bound to it, with a bit for each of them.
type bonds [MaxKinds]int

// bondsOf returns which kinds of an office are bound to each other.
func bondsOf(o Office) bonds {
	var b bonds
	for kind := range o.Kinds {
		b[kind] = 1<<o.Kinds - 1
	}
	for _, pair := range o.Free {
		x, y := pair[0], pair[1]
		b[x] &^= 1 << y
		b[y] &^= 1 << x
	}
	return b
}

// bind reports whether two kinds are bound to each other.
func (b bonds) bind(x, y int) bool {
	return b[x]>>y&1 == 1
}
