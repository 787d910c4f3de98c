package weights

import (
	"iter"

	"baler/tail"
)

// word is the word of a byte: so many bits.
type word struct {
	bits   uint64
	length int
}

// words goes over the words of a code with their bytes, in the order in which numbers are given out to them.
func words(weights []uint8, longest int) iter.Seq2[uint8, word] {
	return func(yield func(uint8, word) bool) {
		next := 0
		for cut := range longest {
			for symbol, weight := range weights {
				if int(weight) != cut+1 {
					continue
				}
				if !yield(uint8(symbol), word{bits: uint64(next >> cut), length: longest - cut}) {
					return
				}
				next += share(weight)
			}
		}
	}
}

// cell is what a number of as many bits as the longest word begins with: the word of this byte, of this length.
type cell struct {
	symbol, length uint8
}

// cellsOf gives the cells of all numbers.
func cellsOf(weights []uint8, longest int) (cells [1 << mostWord]cell) {
	next := 0
	for symbol, x := range words(weights, longest) {
		for range 1 << (longest - x.length) {
			cells[next] = cell{symbol, uint8(x.length)}
			next++
		}
	}
	return cells
}

// readWords reads n words, and as many bits ahead of them as the longest word has: a reader does not go back.
func readWords(r *tail.Reader, weights []uint8, longest, n int) []byte {
	cells := cellsOf(weights, longest)
	text := make([]byte, n)
	ahead := r.Bits(longest)
	for k := range text {
		c := cells[ahead]
		text[k] = c.symbol
		ahead = (ahead<<c.length | r.Bits(int(c.length))) & (1<<longest - 1)
	}
	return text
}
