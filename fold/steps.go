package fold

import (
	"slices"

	"tusche/api"
)

// Can returns the segments that can be folded in.
func Can(s Strip) ([]int, api.Errno) {
	if e := Check(s); e != api.OK {
		return nil, e
	}
	return can(s), api.OK
}

// Do returns the strip after a step.
func Do(s Strip, step int) (Strip, api.Errno) {
	if e := Check(s); e != api.OK {
		return Strip{}, e
	}
	if step < 0 || step >= len(s.Lengths) || done(s) {
		return Strip{}, api.ErrNone
	}
	if !foldsIn(s, step) {
		return Strip{}, api.ErrProof
	}
	return after(s, step), api.OK
}

// Steps returns steps that leave one segment.
func Steps(s Strip) ([]int, api.Errno) {
	if e := Check(s); e != api.OK {
		return nil, e
	}
	left, steps := foldDown(s)
	if !done(left) { // if the strip were flat, any steps would lead to one segment
		return nil, api.ErrLost
	}
	return steps, api.OK
}

// Verify checks such steps.
func Verify(s Strip, steps []int) api.Errno {
	if e := Check(s); e != api.OK {
		return e
	}
	for _, step := range steps {
		next, e := Do(s, step)
		if e != api.OK {
			return e
		}
		s = next
	}
	if !done(s) {
		return api.ErrOpen
	}
	return api.OK
}

// Stuck returns what is left when no step is left.
func Stuck(s Strip) (Strip, api.Errno) {
	if e := Check(s); e != api.OK {
		return Strip{}, e
	}
	left, _ := foldDown(s)
	return left, api.OK
}

// done reports whether a strip has just one segment.
func done(s Strip) bool {
	return len(s.Lengths) == 1
}

// can returns the segments that can be folded in, in ascending order.
func can(s Strip) []int {
	var found []int
	for segment := range s.Lengths {
		if foldsIn(s, segment) {
			found = append(found, segment)
		}
	}
	return found
}

// foldsIn reports whether a segment can be folded in.
func foldsIn(s Strip, segment int) bool {
	if done(s) {
		return false
	}
	last := len(s.Lengths) - 1
	length := s.Lengths[segment]
	if segment > 0 && length > s.Lengths[segment-1] || segment < last && length > s.Lengths[segment+1] {
		return false
	}
	return segment == 0 || segment == last || s.Folds[segment-1] != s.Folds[segment]
}

// after returns the strip after a step that can be done.
func after(s Strip, step int) Strip {
	last := len(s.Lengths) - 1
	switch step {
	case 0:
		return Strip{Lengths: slices.Clone(s.Lengths[1:]), Folds: s.Folds[1:]}
	case last:
		return Strip{Lengths: slices.Clone(s.Lengths[:last]), Folds: s.Folds[:last-1]}
	}
	joined := s.Lengths[step-1] + s.Lengths[step+1] - s.Lengths[step]
	return Strip{
		Lengths: slices.Concat(s.Lengths[:step-1], []int{joined}, s.Lengths[step+2:]),
		Folds:   s.Folds[:step-1] + s.Folds[step+1:],
	}
}

// foldDown does steps until none is left. It returns the strip that is left, and the steps.
func foldDown(s Strip) (Strip, []int) {
	left := Strip{Lengths: slices.Clone(s.Lengths), Folds: s.Folds}
	var steps []int
	for {
		next := can(left)
		if len(next) == 0 {
			return left, steps
		}
		steps = append(steps, next[0])
		left = after(left, next[0])
	}
}
