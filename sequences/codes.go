package sequences

import (
	"cmp"

	"baler/api"
	"baler/tail"
)

// The kinds of values of a step, in the order in which a section tells their tables and first states.
const (
	ofLits = iota
	ofBack
	ofMatch
	kindsOfValues
)

// The orders in which a step tells its extra bits, and then the next states.
var (
	extraOrder = [kindsOfValues]int{ofBack, ofMatch, ofLits}
	nextOrder  = [kindsOfValues]int{ofLits, ofMatch, ofBack}
)

// mostCodes is how many codes a kind of values has at most.
const mostCodes = 53

// coding is how values of one kind are told: by codes with extra bits, and the codes by a table.
type coding struct {
	codes int               // how many there are
	least [mostCodes]uint32 // by code: the least value that it tells
	extra [mostCodes]uint8  // by code: how many extra bits it has

	mostLog int // of a table
	log     int // of the table that is not told
	counts  []int16
}

// codings gives the codings of all kinds of values.
func codings() (all [kindsOfValues]coding) {
	all[ofLits] = coding{mostLog: 9, log: 6, counts: []int16{
		4, 3, 2, 2, 2, 2, 2, 2, 2, 2, 2, 2, 2, 1, 1, 1, 2, 2, 2, 2, 2, 2, 2, 2, 2, 3, 2, 1, 1, 1, 1, 1, -1, -1, -1, -1,
	}}
	all[ofLits].spread(0, []uint8{
		0, 0, 0, 0, 0, 0, 0, 0, 0, 0, 0, 0, 0, 0, 0, 0,
		1, 1, 1, 1, 2, 2, 3, 3, 4, 6, 7, 8, 9, 10, 11, 12, 13, 14, 15, 16,
	})
	all[ofBack] = coding{mostLog: 8, log: 5, counts: []int16{
		1, 1, 1, 1, 1, 1, 2, 2, 2, 1, 1, 1, 1, 1, 1, 1, 1, 1, 1, 1, 1, 1, 1, 1, -1, -1, -1, -1, -1,
	}}
	all[ofBack].spread(leastBack, []uint8{
		0, 1, 2, 3, 4, 5, 6, 7, 8, 9, 10, 11, 12, 13, 14, 15, 16, 17, 18, 19, 20, 21, 22, 23, 24, 25, 26, 27, 28, 29, 30, 31,
	})
	all[ofMatch] = coding{mostLog: 9, log: 6, counts: []int16{
		1, 4, 3, 2, 2, 2, 2, 2, 2,
		1, 1, 1, 1, 1, 1, 1, 1, 1, 1, 1, 1, 1, 1, 1, 1, 1, 1, 1, 1, 1, 1, 1, 1, 1, 1, 1, 1, 1, 1, 1, 1, 1, 1, 1, 1, 1,
		-1, -1, -1, -1, -1, -1, -1,
	}}
	all[ofMatch].spread(leastMatch, []uint8{
		0, 0, 0, 0, 0, 0, 0, 0, 0, 0, 0, 0, 0, 0, 0, 0, 0, 0, 0, 0, 0, 0, 0, 0, 0, 0, 0, 0, 0, 0, 0, 0,
		1, 1, 1, 1, 2, 2, 3, 3, 4, 4, 5, 7, 8, 9, 10, 11, 12, 13, 14, 15, 16,
	})
	return all
}

// spread gives the codes their values, from the first one on: each code begins where the one ahead of it ends.
func (c *coding) spread(first uint32, extra []uint8) {
	c.codes = len(extra)
	for code, bits := range extra {
		c.least[code], c.extra[code] = first, bits
		first += 1 << bits
	}
}

// codeOf finds the code that tells a value.
func (c *coding) codeOf(value int) uint8 {
	return uint8(lastUpTo(c.least[:c.codes], uint32(value)))
}

// read gives the value of a code whose extra bits come next.
func (c *coding) read(r *tail.Reader, code uint8) int {
	return int(c.least[code]) + int(r.Bits(int(c.extra[code])))
}

// put puts the extra bits by which a code tells a value.
func (c *coding) put(w *tail.Writer, code uint8, value int) {
	w.Put(uint64(value)-uint64(c.least[code]), int(c.extra[code]))
}

// lastUpTo finds the place of the last of some rising values that is at most x, by halving: 0, if none is.
func lastUpTo[T cmp.Ordered](rising []T, x T) int {
	from, to := 0, len(rising)
	for to-from > 1 {
		middle := from + (to-from)/2
		if rising[middle] <= x {
			from = middle
		} else {
			to = middle
		}
	}
	return from
}

// valuesOf gives a step's values by their kinds.
func valuesOf(step api.Seq) [kindsOfValues]int {
	return [kindsOfValues]int{ofLits: step.Lits, ofBack: step.Back, ofMatch: step.Match}
}

// stepOf gives the step of such values.
func stepOf(values [kindsOfValues]int) api.Seq {
	return api.Seq{Lits: values[ofLits], Match: values[ofMatch], Back: values[ofBack]}
}
