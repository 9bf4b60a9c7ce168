package hours

import "tusche/api"

// Sums returns the sums of artists and machines.
func Sums(work [][]int) (artists, machines []int, e api.Errno) {
	if e := Check(work); e != api.OK {
		return nil, nil, e
	}
	artists, machines = sumsOf(work)
	return artists, machines, api.OK
}

// Busy returns who works without a break in each plan of the shortest length. Their sum is this length: whoever has fewer hours has a break in each such plan.
func Busy(work [][]int, seats int) (artists, machines []int, e api.Errno) {
	if e := checkSeats(work, seats); e != api.OK {
		return nil, nil, e
	}
	length := shortest(work, seats)
	artistSums, machineSums := sumsOf(work)
	return placesOf(artistSums, length), placesOf(machineSums, length), api.OK
}

// Room returns how many hours can be added.
func Room(work [][]int, seats, artist, machine int) (int, api.Errno) {
	if e := checkSeats(work, seats); e != api.OK {
		return 0, e
	}
	if !within(artist, len(work)) || !within(machine, len(work[0])) {
		return 0, api.ErrNone
	}
	length := shortest(work, seats)
	return min(length-rowSum(work[artist]), length-columnSum(work, machine), seats*length-total(work)), api.OK
}

// Enough returns how many seats are enough.
func Enough(work [][]int, length int) (int, api.Errno) {
	if e := Check(work); e != api.OK {
		return 0, e
	}
	if length < 0 {
		return 0, api.ErrBounds
	}
	artists, machines := sumsOf(work)
	if length < max(greatest(artists), greatest(machines)) {
		return 0, api.ErrLost
	}
	if total(work) == 0 {
		return 0, api.OK
	}
	return shared(total(work), length), api.OK
}

// gathered goes through a list with a number, from 0 on, which each element makes another one.
func gathered[T any](list []T, next func(number int, element T) int) int {
	number := 0
	for _, element := range list {
		number = next(number, element)
	}
	return number
}

// greatest returns the greatest number of a list. None is below 0.
func greatest(list []int) int {
	return gathered(list, func(most, number int) int { return max(most, number) })
}

// rowSum returns the sum of a row.
func rowSum(row []int) int {
	return gathered(row, func(sum, hours int) int { return sum + hours })
}

// columnSum returns the sum of a column.
func columnSum(rows [][]int, column int) int {
	return gathered(rows, func(sum int, row []int) int { return sum + row[column] })
}

// total returns the sum of all hours.
func total(rows [][]int) int {
	return gathered(rows, func(sum int, row []int) int { return sum + rowSum(row) })
}

// sumsOf returns the sums of all artists and of all machines.
func sumsOf(work [][]int) (artists, machines []int) {
	for _, row := range work {
		artists = append(artists, rowSum(row))
	}
	for machine := range work[0] {
		machines = append(machines, columnSum(work, machine))
	}
	return artists, machines
}

// placesOf returns all places of a number in a list.
func placesOf(list []int, number int) []int {
	var places []int
	for place, other := range list {
		if other == number {
			places = append(places, place)
		}
	}
	return places
}

// shared returns hours divided by a number, rounded up. It does not add before it divides, since the sum could be greater than any int.
func shared(hours, by int) int {
	quotient := hours / by
	if hours%by > 0 {
		quotient++
	}
	return quotient
}
