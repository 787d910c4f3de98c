package sequences

import (
	"math"

	"baler/api"
)

// kept is how many distances are kept; a back above that tells a distance of its own, more by as many.
const kept = 3

// Value tells the distance that a back means, and brings it to the front of those that are kept (P13.3).
func Value(rep *[3]int, lits, back int) (int, api.Errno) {
	if rep == nil {
		return 0, api.ErrNil
	}
	if back < 1 {
		return 0, api.ErrArg
	}
	distance, moved := meant(rep, lits, back)
	if distance < 1 {
		return 0, api.ErrMalformed
	}
	copy(rep[1:moved+1], rep[:moved])
	rep[0] = distance
	return distance, api.OK
}

// meant gives the distance, below 1 if there is none, and how many of those kept give way to it.
func meant(rep *[3]int, lits, back int) (distance, moved int) {
	which := back - 1
	if lits == 0 {
		which++
	}
	switch {
	case back > kept:
		return back - kept, kept - 1
	case which < kept:
		return rep[which], which
	case rep[0] > 1:
		return rep[0] - 1, kept - 1
	}
	return 0, 0
}

// Pick finds the least back that means a distance; 0, if there is none (P13.4).
func Pick(rep *[3]int, lits, distance int) int {
	if rep == nil || distance < 1 {
		return 0
	}
	for back := 1; back <= kept; back++ {
		if told, _ := meant(rep, lits, back); told == distance {
			return back
		}
	}
	if distance > math.MaxInt-kept {
		return 0
	}
	return distance + kept
}
