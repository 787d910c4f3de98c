package states

import (
	"math"

	"baler/api"
)

// Counts gives counts of a table in which each symbol has about the part of the states that it has of the freqs (P7.4).
func Counts(freq []uint32, log int) ([]int16, api.Errno) {
	if len(freq) > mostSymbols || !isLog(log) {
		return nil, api.ErrArg
	}
	for len(freq) > 0 && freq[len(freq)-1] == 0 {
		freq = freq[:len(freq)-1]
	}
	total, used := sumOf(freq)
	if used == 0 || used > 1<<log {
		return nil, api.ErrArg
	}
	counts := wholeParts(freq, total, log)
	settle(counts, freq, 1<<log)
	markRare(counts, freq, total, log)
	return counts, api.OK
}

// sumOf tells what the freqs come to, and how many of them are above 0.
func sumOf(freq []uint32) (total uint64, used int) {
	for _, f := range freq {
		total += uint64(f)
		if f > 0 {
			used++
		}
	}
	return total, used
}

// wholeParts gives each symbol the whole part of its share, but none of those that are there less than one state.
func wholeParts(freq []uint32, total uint64, log int) []int16 {
	counts := make([]int16, len(freq))
	for symbol, f := range freq {
		if f > 0 {
			counts[symbol] = int16(max(uint64(f)<<log/total, 1))
		}
	}
	return counts
}

// settle brings the counts to all states, and goes on until no state is better with another symbol.
func settle(counts []int16, freq []uint32, states int) {
	spare := states
	for _, count := range counts {
		spare -= int(count)
	}
	for {
		to, gain := mostGain(counts, freq)
		from, loss := leastLoss(counts, freq)
		switch {
		case spare > 0:
			counts[to]++
			spare--
		case spare < 0:
			counts[from]--
			spare++
		case gain > loss:
			counts[to]++
			counts[from]--
		default:
			return
		}
	}
}

// mostGain finds the symbol that gains most by one state more.
func mostGain(counts []int16, freq []uint32) (symbol int, gain uint64) {
	for s, f := range freq {
		if g := uint64(f) * saved(counts[s]); g > gain {
			symbol, gain = s, g
		}
	}
	return symbol, gain
}

// leastLoss finds the symbol of two states or more that loses least by one state fewer.
func leastLoss(counts []int16, freq []uint32) (symbol int, loss uint64) {
	loss = math.MaxUint64
	for s, f := range freq {
		if counts[s] < 2 {
			continue
		}
		if l := uint64(f) * saved(counts[s]-1); l < loss {
			symbol, loss = s, l
		}
	}
	return symbol, loss
}

// saved tells by how much a symbol's words are shorter with one state more: the logarithm of (count + 1) / count, in parts
// of 2^-31. Whole numbers are enough: with d = 2 count + 1 it is 2 (15 d^2 - 4) / (d (15 d^2 - 9)), but for a part of 30000.
func saved(count int16) uint64 {
	d := 2*uint64(count) + 1
	return (15*d*d - 4) << 32 / (d * (15*d*d - 9))
}

// markRare makes the count of each symbol -1 that is rarer than its one state.
func markRare(counts []int16, freq []uint32, total uint64, log int) {
	for symbol, f := range freq {
		if counts[symbol] == 1 && uint64(f)<<log < total {
			counts[symbol] = -1
		}
	}
}
