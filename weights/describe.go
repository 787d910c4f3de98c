package weights

import (
	"iter"
	"slices"

	"baler/api"
	"baler/states"
	"baler/tail"
)

const (
	mostTold = mostWeights - 1
	// A first byte up to this one tells how many bytes follow; one above it, by as much, how many weights of four bits.
	mostBytes = 127
	mostFours = 255 - mostBytes
	leastLog  = 5
	mostLog   = 6 // of a table of weights
)

// describedIn tells how many bytes a description with this first byte has.
func describedIn(first byte) int {
	if first <= mostBytes {
		return 1 + int(first)
	}
	return 1 + (int(first)-mostBytes+1)/2
}

// tell gives the weights that a description tells: all but the last one.
func tell(b []byte) ([]uint8, bool) {
	first, b := b[0], b[1:]
	if first > mostBytes {
		return tellFours(b, int(first)-mostBytes), true
	}
	counts, log, used, e := states.Read(b, mostLog, mostWeight)
	if e != api.OK {
		return nil, false
	}
	cells, e := states.Table(counts, log)
	if e != api.OK {
		return nil, false
	}
	r, e := tail.New(b[used:])
	if e != api.OK {
		return nil, false
	}
	return tellByTurns(r, cells, log)
}

// tellFours gives n weights of four bits each.
func tellFours(b []byte, n int) []uint8 {
	told := make([]uint8, n)
	for k := range told {
		told[k] = b[k/2] >> 4
		if k%2 == 1 {
			told[k] = b[k/2] & 15
		}
	}
	return told
}

// tellByTurns gives the weights that two states tell by turns, until the bits do not reach for the next state.
func tellByTurns(r *tail.Reader, cells []api.Cell, log int) ([]uint8, bool) {
	pair := [2]uint64{r.Bits(log), r.Bits(log)}
	if r.Left() < 0 {
		return nil, false
	}
	var told []uint8
telling:
	for {
		for turn, state := range pair {
			// One more comes behind this one in any case; and states without bits would tell on for ever.
			if len(told) == mostTold-1 {
				return nil, false
			}
			cell := cells[state]
			told = append(told, cell.Symbol)
			pair[turn] = uint64(cell.Base) + r.Bits(int(cell.Bits))
			if r.Left() < 0 {
				told = append(told, cells[pair[1-turn]].Symbol)
				break telling
			}
		}
	}
	return told, true
}

// descriptions goes over descriptions that tell these weights, of both kinds as far as there are any.
func descriptions(told []uint8) iter.Seq[[]byte] {
	return func(yield func([]byte) bool) {
		if len(told) <= mostFours && !yield(putFours(told)) {
			return
		}
		// Two states tell no fewer than two weights.
		if len(told) < 2 {
			return
		}
		for log, counts := range tables(told) {
			if b, ok := putByStates(told, counts, log); ok && !yield(b) {
				return
			}
		}
	}
}

// putFours gives the description of at most mostFours weights in four bits each.
func putFours(told []uint8) []byte {
	b := make([]byte, 1+(len(told)+1)/2)
	b[0] = byte(mostBytes + len(told))
	for k, weight := range told {
		if k%2 == 0 {
			weight <<= 4
		}
		b[1+k/2] |= weight
	}
	return b
}

// tables goes over the tables by whose states the weights may be told: a log, and counts.
func tables(told []uint8) iter.Seq2[int, []int16] {
	return func(yield func(int, []int16) bool) {
		freq := freqOf(told)
		for log := leastLog; log <= mostLog; log++ {
			counts, e := states.Counts(freq[:], log)
			if e == api.OK && !yield(log, counts) {
				return
			}
		}
		yield(mostLog, sureCounts())
	}
}

// freqOf tells how often each weight is told.
func freqOf(told []uint8) (freq [mostWeight + 1]uint32) {
	for _, weight := range told {
		freq[weight]++
	}
	// Where one weight has all states none has bits, and no reader would come to an end. That weight is 1, since no other one
	// makes a code alone: so 0 gets a state.
	if int(freq[1]) == len(told) {
		freq[0] = 1
	}
	return freq
}

// sureCounts gives counts by which the weights of every code are told in few enough bytes: one up to 5 takes at most 3 bits, a
// greater one more, but by no more than a 32nd of its 2^(weight-1). These come to less than 2^11 in all, so 253 next states
// take at most 253 * 3 + 64 bits: with the two first states, the mark and the counts, below mostBytes.
func sureCounts() []int16 {
	return []int16{14, 8, 8, 8, 8, 8, 4, 2, 1, 1, 1, 1}
}

// putByStates gives the description of two weights or more by a table of states, if that is short enough.
func putByStates(told []uint8, counts []int16, log int) ([]byte, bool) {
	table, e := states.Write(counts, log)
	if e != api.OK {
		return nil, false
	}
	cells, e := states.Table(counts, log)
	if e != api.OK {
		return nil, false
	}
	b := slices.Concat([]byte{0}, table, putByTurns(told, cells, log))
	if len(b)-1 > mostBytes {
		return nil, false
	}
	b[0] = byte(len(b) - 1)
	return b, true
}

// putByTurns gives the tail from which two states tell the weights. It goes from the last weight to the first, as each state
// hangs on the one behind it.
func putByTurns(told []uint8, cells []api.Cell, log int) []byte {
	w := &tail.Writer{}
	var pair [2]int
	for k, weight := range slices.Backward(told) {
		if k >= len(told)-2 {
			pair[k%2] = firstOf(cells, weight)
			continue
		}
		next := pair[k%2]
		state, _ := states.Ahead(cells, weight, next)
		w.Put(uint64(next-int(cells[state].Base)), int(cells[state].Bits))
		pair[k%2] = state
	}
	w.Put(uint64(pair[1]), log)
	w.Put(uint64(pair[0]), log)
	return w.Close()
}

// firstOf finds a weight's first state. It has the most bits, and has some if the weight is not alone: behind it a reader finds
// the end.
func firstOf(cells []api.Cell, weight uint8) int {
	return slices.IndexFunc(cells, func(cell api.Cell) bool { return cell.Symbol == weight })
}
