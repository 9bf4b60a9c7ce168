package cut

import "tusche/api"

// Cuts returns all cuts of the whole sheet.
func Cuts(l Layout) ([]Cut, api.Errno) {
	if e := Check(l); e != api.OK {
		return nil, e
	}
	return cutsOf(sheetOf(l)), api.OK
}

// Plan returns cuts that separate all labels.
func Plan(l Layout) ([]Cut, api.Errno) {
	if e := Check(l); e != api.OK {
		return nil, e
	}
	var plan []Cut
	_, is := follow(l, func(p piece) (line, bool) {
		c, is := anyCut(p)
		plan = append(plan, Cut(c))
		return c, is
	})
	if !is {
		return nil, api.ErrLost
	}
	return plan, api.OK
}

// Verify checks such cuts.
func Verify(l Layout, plan []Cut) api.Errno {
	if e := Check(l); e != api.OK {
		return e
	}
	done, e := 0, api.OK
	follow(l, func(p piece) (line, bool) {
		if done == len(plan) {
			e = api.ErrOpen
			return line{}, false
		}
		c := line(plan[done])
		if !isCut(p, c) {
			e = api.ErrProof
			return line{}, false
		}
		done++
		return c, true
	})
	if e == api.OK && done < len(plan) {
		return api.ErrShut
	}
	return e
}

// Blocked returns a piece that cannot be cut.
func Blocked(l Layout) (Label, api.Errno) {
	if e := Check(l); e != api.OK {
		return Label{}, e
	}
	blocked, is := follow(l, anyCut)
	if is {
		return Label{}, api.ErrLost
	}
	return blocked.place, api.OK
}

// anyCut returns one cut of a piece, and whether it has one. No cut is better than another one: what can be cut can be cut beginning with any cut (P6.6).
func anyCut(p piece) (line, bool) {
	cuts := cutsOf(p)
	if len(cuts) == 0 {
		return line{}, false
	}
	return line(cuts[0]), true
}

// follow cuts a layout as a plan does, with the cut that next returns for each piece with at least two labels. It reports whether it comes to the end; otherwise it returns the piece for which there is none.
func follow(l Layout, next func(p piece) (line, bool)) (piece, bool) {
	stack := []piece{sheetOf(l)}
	for len(stack) > 0 {
		top := stack[len(stack)-1]
		stack = stack[:len(stack)-1]
		if len(top.labels) < 2 {
			continue
		}
		c, is := next(top)
		if !is {
			return top, false
		}
		first, second := split(top, c)
		stack = append(stack, second, first)
	}
	return piece{}, true
}
