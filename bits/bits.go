// Package bits is layer 1: numbers in rows of bits, the lowest bit first. See shared/doc/01-bits.md.
package bits

import (
	"iter"
	"slices"

	"baler/api"
)

const mostBits = 56

// Reader reads numbers, the lowest bit first.
type Reader struct {
	b  []byte
	at int // the number of the bit that is read next
}

// New gives a reader at bit 0 of b (P1.1).
func New(b []byte) *Reader {
	return &Reader{b: slices.Clone(b)}
}

// Bits reads the number of the next n bits (P1.2).
func (r *Reader) Bits(n int) (uint64, api.Errno) {
	if r == nil {
		return 0, api.ErrNil
	}
	if !canCount(n) {
		return 0, api.ErrArg
	}
	if n > r.Left() {
		return 0, api.ErrTruncated
	}
	return r.take(n), api.OK
}

// Align reads the number of the bits up to the next byte's beginning (P1.3).
func (r *Reader) Align() (uint64, api.Errno) {
	if r == nil {
		return 0, api.ErrNil
	}
	return r.take(toByte(r.at)), api.OK
}

// Left tells how many bits are left (P1.4).
func (r *Reader) Left() int {
	if r == nil {
		return 0
	}
	return len(r.b)<<3 - r.at
}

// take reads n bits; the caller has made sure that they are there.
func (r *Reader) take(n int) uint64 {
	var x uint64
	for k, bit := range row(r.b, r.at, n) {
		x |= bit << k
	}
	r.at += n
	return x
}

// Writer writes numbers, the lowest bit first. One as Go makes it is empty.
type Writer struct {
	b []byte
	n int // how many bits were put
}

// Put puts the lowest n bits of x behind (P1.5).
func (w *Writer) Put(x uint64, n int) api.Errno {
	if w == nil {
		return api.ErrNil
	}
	if !canCount(n) {
		return api.ErrArg
	}
	for bit := range lowest(x, n) {
		w.push(bit)
	}
	return api.OK
}

// Align puts bits 0 behind up to the next byte's beginning (P1.6).
func (w *Writer) Align() {
	if w == nil {
		return
	}
	w.Put(0, toByte(w.n))
}

// Bytes gives all bytes so far (P1.6).
func (w *Writer) Bytes() []byte {
	if w == nil {
		return nil
	}
	return slices.Clone(w.b)
}

func (w *Writer) push(bit uint8) {
	if w.n&7 == 0 {
		w.b = append(w.b, 0)
	}
	w.b[w.n>>3] |= bit << (w.n & 7)
	w.n++
}

func canCount(n int) bool {
	return 0 <= n && n <= mostBits
}

// toByte tells how many bits there are from bit at up to the next byte's beginning.
func toByte(at int) int {
	return -at & 7
}

// row hands out n bits of b from bit at on, each with its place among them.
func row(b []byte, at, n int) iter.Seq2[int, uint64] {
	return func(yield func(int, uint64) bool) {
		for k := range n {
			i := at + k
			if !yield(k, uint64(b[i>>3]>>(i&7)&1)) {
				return
			}
		}
	}
}

// lowest hands out the lowest n bits of x, from bit 0 on.
func lowest(x uint64, n int) iter.Seq[uint8] {
	return func(yield func(uint8) bool) {
		for k := range n {
			if !yield(uint8(x >> k & 1)) {
				return
			}
		}
	}
}
