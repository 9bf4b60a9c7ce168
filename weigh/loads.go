package weigh

import (
	"slices"

	"tusche/api"
)

// Check returns the error of a set of weights.
func Check(weights []int) api.Errno {
	switch {
	case len(weights) == 0:
		return api.ErrEmpty
	case len(weights) > MaxWeights:
		return api.ErrMany
	}
	for i, weight := range weights {
		switch {
		case !within(weight, 1, MaxWeight):
			return api.ErrSize
		case i > 0 && weight < weights[i-1]:
			return api.ErrOrder
		}
	}
	return api.OK
}

// Loads returns all loads above 0 that can be weighed.
func Loads(weights []int) ([]int, api.Errno) {
	if e := Check(weights); e != api.OK {
		return nil, e
	}
	var loads []int
	for number := range power(len(weights)) {
		if load := loadOf(weights, signs(len(weights), number)); load > 0 {
			loads = append(loads, load)
		}
	}
	slices.Sort(loads)
	return slices.Compact(loads), api.OK
}

// Lay returns the least laying of a load.
func Lay(weights []int, load int) ([]int, api.Errno) {
	if e := Check(weights); e != api.OK {
		return nil, e
	}
	var least []int
	for number := range power(len(weights)) {
		laying := signs(len(weights), number)
		if loadOf(weights, laying) == load && (least == nil || count(0, laying) > count(0, least)) {
			least = laying
		}
	}
	if least == nil {
		return nil, api.ErrLost
	}
	return least, api.OK
}

// Balances checks whether a laying balances a load.
func Balances(weights, laying []int, load int) api.Errno {
	e := Check(weights)
	switch {
	case e != api.OK:
		return e
	case !areSigns(laying, len(weights)):
		return api.ErrForm
	case loadOf(weights, laying) != load:
		return api.ErrProof
	}
	return api.OK
}

// Reach returns up to which load all can be weighed.
func Reach(weights []int) (int, api.Errno) {
	loads, e := Loads(weights)
	if e != api.OK {
		return 0, e
	}
	n := 0
	for n < len(loads) && loads[n] == n+1 {
		n++
	}
	return n, api.OK
}

// Fewest returns how few weights reach a load.
func Fewest(load int) (int, api.Errno) {
	if !within(load, 1, MaxLoad) {
		return 0, api.ErrSize
	}
	weights := 1
	for half(weights) < load { // no weights reach further than this (P12.8)
		weights++
	}
	return weights, api.OK
}

// Set returns as few weights as possible that reach a load.
func Set(load int) ([]int, api.Errno) {
	size, e := Fewest(load)
	if e != api.OK {
		return nil, e
	}
	var weights []int
	for exponent := range size {
		weights = append(weights, power(exponent))
	}
	return weights, api.OK
}

// loadOf returns the load that a laying balances.
func loadOf(weights, laying []int) int {
	load := 0
	for i, weight := range weights {
		load += weight * laying[i]
	}
	return load
}
